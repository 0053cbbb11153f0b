package tests

import (
	"fmt"
	"math"
	"slices"
	"strings"
	"testing"

	"loop.example/g00380/impl"
)

// placed is what stands behind a word's sign: an id or a number, perhaps with a collection's name
// and a point ahead of it.
func placed(rest string) (string, int) {
	if name, n, there := strings.Cut(rest, "."); there {
		return name, number(n)
	}
	return "docs", number(rest)
}

// readOf is written as ?3, of the id 3, or >3, of the things whose numbers are above 3.
func readOf(text string) impl.Read {
	name, n := placed(text[1:])
	f := where(term(impl.TeEq, "id", intOf(n)))
	if text[0] == '>' {
		f = where(term(impl.TeGt, "k", intOf(n)))
	}
	return impl.Read{Coll: name, Filter: f}
}

// changeOf is written as +3, of a thing that was not there (its number is 2 then), =3, of one that
// was (its number was 1), -3, of one that goes, or ~3, of what was not there and goes.
func changeOf(text string) impl.Change {
	name, id := placed(text[1:])
	c := impl.Change{Write: impl.Write{Coll: name, Id: id, Doc: thing(id, 2)}}
	if text[0] == '-' || text[0] == '~' {
		c.Write = impl.Write{Coll: name, Id: id, Gone: true}
	}
	if text[0] == '=' || text[0] == '-' {
		c.Before, c.Was = thing(id, 1), true
	}
	return c
}

// done is written as its Snap and its At, then reads, changes, and the flags in and out.
func done(text string) impl.Done {
	words := strings.Fields(text)
	d := impl.Done{Snap: number(words[0]), At: number(words[1])}
	for _, w := range words[2:] {
		switch {
		case w == "in":
			d.In = true
		case w == "out":
			d.Out = true
		case w[0] == '?' || w[0] == '>':
			d.Reads = append(d.Reads, readOf(w))
		default:
			d.Changes = append(d.Changes, changeOf(w))
		}
	}
	return d
}

// dones are a list of them, with | between.
func dones(text string) []impl.Done {
	var list []impl.Done
	for part := range strings.SplitSeq(text, "|") {
		if strings.TrimSpace(part) != "" {
			list = append(list, done(part))
		}
	}
	return list
}

func sameRead(a, b impl.Read) bool { return a.Coll == b.Coll && sameFilter(a.Filter, b.Filter) }

func sameDone(a, b impl.Done) bool {
	return a.Snap == b.Snap && a.At == b.At && a.In == b.In && a.Out == b.Out &&
		slices.EqualFunc(a.Reads, b.Reads, sameRead) && slices.Equal(a.Changes, b.Changes)
}

func sameDones(a, b []impl.Done) bool { return slices.EqualFunc(a, b, sameDone) }

func shownDone(d impl.Done) string {
	words := []string{fmt.Sprint(d.Snap, " ", d.At)}
	if d.In {
		words = append(words, "in")
	}
	if d.Out {
		words = append(words, "out")
	}
	for _, r := range d.Reads {
		f, _ := impl.FilterText(r.Filter)
		words = append(words, fmt.Sprintf("?%.20q(%.60q)", r.Coll, f))
	}
	for _, c := range d.Changes {
		was, _ := impl.ValueText(c.Before)
		is, _ := impl.ValueText(c.Write.Doc)
		words = append(words, fmt.Sprintf("%.20q.%d(%v %.40q, %v %.40q)", c.Write.Coll, c.Write.Id, c.Was, was, !c.Write.Gone, is))
	}
	return fmt.Sprintf("%.400s", strings.Join(words, " "))
}

func shownDones(list []impl.Done) string {
	var parts []string
	for _, d := range list {
		parts = append(parts, shownDone(d))
	}
	return fmt.Sprintf("[%.1200s]", strings.Join(parts, " | "))
}

// wrongDones holds all calls of a list to a code, whatever else they are given.
func wrongDones(t *testing.T, what string, list []impl.Done, code int) {
	t.Helper()
	for _, d := range []impl.Done{done("1 9000 ?1 =2"), done("0 1"), done("9999 10000 =1 in"), {}, done("3 2")} {
		if got, c := impl.Certify(list, d); len(got) != 0 || c != code {
			t.Errorf("Certify of %s into %s: %s, %d, not %d", shownDone(d), what, shownDones(got), c, code)
		}
	}
	for _, n := range manyTimes {
		if got, c := impl.CleanDone(list, n); len(got) != 0 || c != code {
			t.Errorf("CleanDone up to %d, %s: %s, %d, not %d", n, what, shownDones(got), c, code)
		}
	}
	if got, c := impl.EdgesOf(list); len(got) != 0 || c != code {
		t.Errorf("EdgesOf, %s: %v, %d, not %d", what, got, c, code)
	}
}

// wrongDone holds all calls to it that one that was committed isn't right: alone, ahead of others,
// between, and behind them.
func wrongDone(t *testing.T, what string, d impl.Done) {
	t.Helper()
	if impl.DoneOK(d) {
		t.Errorf("DoneOK, %s: it is right", what)
	}
	early, late := done("0 2 ?8 =9"), done("7999 9998 ?8 =9")
	for _, list := range [][]impl.Done{{d}, {d, late}, {early, d}, {early, d, late}} {
		wrongDones(t, what, list, impl.ErrBad)
		noOrderOf(t, what, list, impl.ErrBad)
		noReplayOf(t, what, twoNames, pastsOf(list), nil, impl.ErrBad)
		wrongWorld(t, what, worldOf(fresh(), pastsOf(list)...))
	}
	for _, list := range [][]impl.Done{nil, {early}, {early, late}, {late}, manyDones(impl.MaxDone)} {
		if got, code := impl.Certify(list, d); len(got) != 0 || code != impl.ErrBad {
			t.Errorf("Certify, %s: %s, %d", what, shownDones(got), code)
		}
	}
}

// rightDone holds all calls to it that one that was committed is right.
func rightDone(t *testing.T, what string, d impl.Done) {
	t.Helper()
	if !impl.DoneOK(d) {
		t.Errorf("DoneOK, %s: it is not right", what)
	}
	d.In, d.Out = true, true
	if !impl.DoneOK(d) {
		t.Errorf("DoneOK, %s: it is not right with flags", what)
	}
	// Who asks nothing of flags takes it so.
	orderIs(t, []impl.Done{d}, 0)
	replayIs(t, what, twoNames, pastsOf([]impl.Done{d}), []int{0}, true, chains(1, "", ""))
	serialIsHeld(t, what, worldOf(fresh(), impl.Past{Done: d}), true, impl.OK)
	plain := d
	plain.In, plain.Out = false, false
	if got, code := impl.Certify(nil, d); !sameDones(got, []impl.Done{plain}) || code != impl.OK {
		t.Errorf("Certify, %s: %s, %d", what, shownDones(got), code)
	}
	wrongDones(t, what+", with In and Out", []impl.Done{d}, impl.ErrBad)
	for i := range 3 {
		d.In, d.Out = i == 1, i == 2
		if got, code := impl.CleanDone([]impl.Done{d}, d.At-1); !sameDones(got, []impl.Done{d}) || code != impl.OK {
			t.Errorf("CleanDone, %s: %s, %d", what, shownDones(got), code)
		}
		if got, code := impl.EdgesOf([]impl.Done{d}); len(got) != 0 || code != impl.OK {
			t.Errorf("EdgesOf, %s: %v, %d", what, got, code)
		}
	}
}

// manyDones are so many, one behind the other, of which none has to do with another.
func manyDones(n int) []impl.Done {
	var list []impl.Done
	for i := range n {
		list = append(list, done(fmt.Sprintf("%d %d ?8 =9", i, i+1)))
	}
	return list
}

func TestP10Constants(t *testing.T) {
	if impl.MaxReads != 20 || impl.MaxDone != 30 {
		t.Errorf("MaxReads %d, MaxDone %d", impl.MaxReads, impl.MaxDone)
	}
}

func TestP10DoneTimes(t *testing.T) {
	for _, at := range []int{1, 2, 3, 5000, 9999, 10000} {
		for _, snap := range []int{0, 1, at - 2, at - 1, at, at + 1, at + 2, -1, -2, math.MinInt, math.MaxInt} {
			d := done("0 1 ?1 =2")
			d.Snap, d.At = snap, at
			if snap >= 0 && snap < at {
				rightDone(t, fmt.Sprint("from ", snap, " to ", at), d)
			} else {
				wrongDone(t, fmt.Sprint("from ", snap, " to ", at), d)
			}
		}
	}
	// There are no such times.
	for _, at := range []int{10001, 10002, 1 << 32, 1<<32 + 5, math.MaxInt, 0, -1, math.MinInt} {
		for _, snap := range []int{0, 1, 5000, 9999, 10000, 10001, -1, -2, math.MinInt, math.MaxInt} {
			wrongDone(t, fmt.Sprint("from ", snap, " to ", at), impl.Done{Snap: snap, At: at})
		}
	}
	wrongDone(t, "a zero one", impl.Done{})
}

// wrongRead holds all calls to it that a read isn't right, wherever among others it stands.
func wrongRead(t *testing.T, what string, r impl.Read) {
	t.Helper()
	if impl.ReadOK(r) {
		t.Errorf("ReadOK, %s: it is right", what)
	}
	right := readOf("?1")
	for _, reads := range [][]impl.Read{{r}, {r, right}, {right, r}, {right, r, right}} {
		for _, changes := range [][]impl.Change{nil, {changeOf("=1")}, {changeOf("=1"), {}}} {
			if hits, code := impl.Hits(reads, changes); hits || code != impl.ErrBad {
				t.Errorf("Hits, %s: %v, %d", what, hits, code)
			}
		}
		wrongDone(t, what, impl.Done{Snap: 4, At: 6, Reads: reads})
		wrongDone(t, what, impl.Done{Snap: 4, At: 6, Reads: reads, Changes: []impl.Change{changeOf("=1")}})
	}
}

func rightRead(t *testing.T, what string, r impl.Read) {
	t.Helper()
	if !impl.ReadOK(r) {
		t.Errorf("ReadOK, %s: it is not right", what)
	}
	if _, code := impl.Hits([]impl.Read{r}, []impl.Change{changeOf("=1")}); code != impl.OK {
		t.Errorf("Hits, %s: %d", what, code)
	}
	rightDone(t, what, impl.Done{Snap: 4, At: 6, Reads: []impl.Read{readOf("?1"), r}, Changes: []impl.Change{changeOf("=1")}})
}

func TestP10ReadNames(t *testing.T) {
	for _, name := range rightNames() {
		rightRead(t, name, impl.Read{Coll: name, Filter: everything()})
	}
	for _, name := range append(wrongNames(), strings.Repeat("n", impl.MaxText+1)) {
		wrongRead(t, fmt.Sprintf("the name %.20q", name), impl.Read{Coll: name, Filter: everything()})
	}
	wrongRead(t, "a zero one", impl.Read{})
}

func TestP10ReadFilters(t *testing.T) {
	x, wrong := term(impl.TeEq, "a", intOf(1)), term(impl.TeEq, "a", boolOf(2))
	full := clause(x, x, x, x)
	for what, f := range map[string]impl.Filter{
		"no terms": everything(), "a term": where(x), "all that there may be": filter(full, full, full), "a clause without terms": filter(full, clause()),
	} {
		rightRead(t, what, impl.Read{Coll: "docs", Filter: f})
	}
	for what, f := range map[string]impl.Filter{
		"no clause": {}, "an empty list of clauses": {Any: []impl.Clause{}}, "a clause more": filter(full, full, full, full), "a term more": where(x, x, x, x, x),
		"a wrong value": where(wrong), "a wrong value behind": filter(full, clause(x, wrong)), "a wrong value behind no terms": filter(clause(), clause(wrong)),
		"no Op": where(term(0, "a", intOf(1))), "an Op more": where(term(11, "a", intOf(1))), "no path": where(term(impl.TeEq, "", intOf(1))), "a type that is none": where(term(impl.TeType, "a", intOf(6))),
		"beyond MaxList": {Any: make([]impl.Clause, impl.MaxList+1)},
	} {
		wrongRead(t, what, impl.Read{Coll: "docs", Filter: f})
	}
}

func TestP10DoneReads(t *testing.T) {
	d := impl.Done{Snap: 2, At: 5, Changes: []impl.Change{changeOf("=1")}}
	for _, n := range []int{0, 1, 2, 19, 20, 21, 22, impl.MaxList, impl.MaxList + 1} {
		for _, changes := range [][]impl.Change{nil, {changeOf("=1"), changeOf("+2")}} {
			// The same read may be there as often as it likes.
			d.Reads, d.Changes = slices.Repeat([]impl.Read{readOf("?1")}, n), changes
			if n <= 20 {
				rightDone(t, fmt.Sprint(n, " reads"), d)
			} else {
				wrongDone(t, fmt.Sprint(n, " reads"), d)
			}
		}
	}
	for place := range 20 {
		d.Reads = slices.Repeat([]impl.Read{readOf("?1")}, 20)
		d.Reads[place].Coll = "9"
		wrongDone(t, fmt.Sprint("a wrong read at ", place), d)
	}
}

// manyChanges are of so many documents, of twenty ids of a collection each.
func manyChanges(n int) []impl.Change {
	var list []impl.Change
	for i := range n {
		list = append(list, changeOf(fmt.Sprintf("%cc%d.%d", "+=-~"[i%4], i/20, i%20)))
	}
	return list
}

func TestP10DoneChanges(t *testing.T) {
	d := impl.Done{Snap: 2, At: 5}
	for _, n := range []int{0, 1, 2, 20, 21, 59, 60, 61, 62, 80, impl.MaxList, impl.MaxList + 1} {
		for _, reads := range [][]impl.Read{nil, slices.Repeat([]impl.Read{readOf("?c1.3")}, 20)} {
			d.Reads, d.Changes = reads, manyChanges(n)
			if n <= 60 {
				rightDone(t, fmt.Sprint(n, " changes"), d)
			} else {
				wrongDone(t, fmt.Sprint(n, " changes"), d)
			}
		}
	}
	for place := range 60 {
		d.Changes = manyChanges(60)
		slices.Reverse(d.Changes)
		d.Changes[place].Was = !d.Changes[place].Was
		wrongDone(t, fmt.Sprint("a wrong change at ", place), d)
	}
}

func TestP10DocumentsTwice(t *testing.T) {
	for _, text := range []string{
		"=1 =2", "=2 =1", "=1 =more.1", "+1 -more.1 +doc.1 ~docs_.1", "=0 =1 =more.0 =more.1", "=19 =Docs.19", "+1 +11",
	} {
		rightDone(t, text, done("0 1 "+text))
	}
	for _, text := range []string{
		"=1 =1", "+1 +1", "+1 -1", "~1 +1", "=1 -1", "-0 -0", "=1 =2 =1", "=2 =1 =1", "=1 =1 =2", "=more.1 =more.1", "=1 =more.1 =1", "=more.1 =1 =more.2 =more.1", "=19 +19", "=1 =1 =1",
	} {
		wrongDone(t, text, done("0 1 "+text))
	}
	for place := range 59 {
		d := impl.Done{At: 1, Changes: manyChanges(60)}
		d.Changes[place] = d.Changes[59]
		wrongDone(t, fmt.Sprint("one document at ", place, " and at the end"), d)
	}
}

// wrongChange holds all calls to it that a change isn't right, wherever among others it stands.
func wrongChange(t *testing.T, what string, c impl.Change) {
	t.Helper()
	one, two := changeOf("=8"), changeOf("=9")
	for _, changes := range [][]impl.Change{{c}, {c, one}, {one, c}, {one, c, two}} {
		for _, reads := range [][]impl.Read{nil, {readOf("?8")}, {readOf("?8"), {}}} {
			if hits, code := impl.Hits(reads, changes); hits || code != impl.ErrBad {
				t.Errorf("Hits, %s: %v, %d", what, hits, code)
			}
		}
		wrongDone(t, what, impl.Done{Snap: 4, At: 6, Changes: changes})
		wrongDone(t, what, impl.Done{Snap: 4, At: 6, Changes: changes, Reads: []impl.Read{readOf("?1")}})
	}
}

func rightChange(t *testing.T, what string, c impl.Change) {
	t.Helper()
	if _, code := impl.Hits([]impl.Read{readOf("?1")}, []impl.Change{c}); code != impl.OK {
		t.Errorf("Hits, %s: %d", what, code)
	}
	rightDone(t, what, impl.Done{Snap: 4, At: 6, Changes: []impl.Change{changeOf("=8"), c}})
	rightDone(t, what, impl.Done{Snap: 4, At: 6, Changes: []impl.Change{c}, Reads: []impl.Read{readOf("?1")}})
}

// With and without what was there ahead, and what is there then.
var changeSigns = []string{"+", "=", "-", "~"}

func TestP10ChangeNames(t *testing.T) {
	for _, sign := range changeSigns {
		for _, name := range rightNames() {
			c := changeOf(sign + "5")
			c.Write.Coll = name
			rightChange(t, name, c)
		}
		for _, name := range append(wrongNames(), strings.Repeat("n", impl.MaxText+1)) {
			c := changeOf(sign + "5")
			c.Write.Coll = name
			wrongChange(t, fmt.Sprintf("the name %.20q", name), c)
		}
	}
	wrongChange(t, "a zero one", impl.Change{})
}

func TestP10ChangeIds(t *testing.T) {
	for _, sign := range changeSigns {
		for _, id := range []int{0, 1, 5, 18, 19} {
			rightChange(t, fmt.Sprint(sign, id), changeOf(fmt.Sprint(sign, id)))
		}
		for _, id := range []int{-1, -5, 20, 21, 99, 100, 1 << 32, 1<<32 + 5, math.MinInt, math.MaxInt} {
			c := changeOf(sign + "5")
			c.Write.Id = id
			wrongChange(t, fmt.Sprint("the Id ", id), c)
			if id >= 0 && id <= impl.MaxId {
				wrongChange(t, fmt.Sprint("the Id ", id, " with its documents"), changeOf(fmt.Sprint(sign, id)))
			}
		}
	}
}

func TestP10ChangeDocuments(t *testing.T) {
	for _, sign := range changeSigns {
		right := changeOf(sign + "5")
		for what, doc := range wrongDocuments() {
			c := right
			c.Write.Doc = doc
			if !right.Write.Gone || doc != (impl.Value{}) {
				wrongChange(t, sign+" with "+what, c)
			}
			c = right
			c.Before = doc
			if right.Was || doc != (impl.Value{}) {
				wrongChange(t, sign+" behind "+what, c)
			}
		}
		// Of that id, but where there should be none.
		c := right
		c.Write.Doc, c.Write.Gone = thing(5, 7), true
		wrongChange(t, sign+": Gone with a document", c)
		c = right
		c.Before, c.Was = thing(5, 7), false
		wrongChange(t, sign+": not Was with a document", c)
		for _, v := range []impl.Value{{N: 1}, {T: "x"}, {Kind: -1}, boolOf(0)} {
			c.Before = v
			wrongChange(t, fmt.Sprint(sign, ": not Was with ", v), c)
		}
		c.Before = impl.Value{}
		rightChange(t, sign+": not Was", c)
		c.Was = true
		wrongChange(t, sign+": Was with nothing", c)
		c.Before = thing(5, 2)
		rightChange(t, sign+": as it is already", c)
		c.Before = record("a", many(record("id", num(4))), "id", num(5)).value()
		rightChange(t, sign+": another document of that id", c)
	}
}

// A document without an id is not that of the id 0.
func TestP10ChangeOfTheLeastId(t *testing.T) {
	for what, doc := range wrongDocuments() {
		if doc != (impl.Value{}) {
			wrongChange(t, what, impl.Change{Write: gone(0), Before: doc, Was: true})
		}
	}
	wrongChange(t, "nothing", impl.Change{Write: gone(0), Was: true})
	rightChange(t, "the id 0", impl.Change{Write: gone(0), Before: thing(0, 1), Was: true})
}
