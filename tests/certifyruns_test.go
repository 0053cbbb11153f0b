package tests

import (
	"fmt"
	"math/rand"
	"slices"
	"testing"

	"loop.example/g00380/impl"
)

// A plainRead asks for things whose id is in a span and whose number is too; a plainChange has the
// numbers ahead and then, below 0 where nothing is. What the program says of filters and documents
// is held against these.
type plainRead struct {
	coll                           string
	lowId, highId, lowest, topmost int
}

type plainChange struct {
	coll            string
	id, ahead, then int
}

type plainDone struct {
	snap, at int
	reads    []plainRead
	changes  []plainChange
	in, out  bool
}

func (p plainRead) read() impl.Read {
	return impl.Read{Coll: p.coll, Filter: where(
		term(impl.TeGte, "id", intOf(p.lowId)), term(impl.TeLte, "id", intOf(p.highId)),
		term(impl.TeGte, "k", intOf(p.lowest)), term(impl.TeLte, "k", intOf(p.topmost)))}
}

func (p plainRead) asksFor(c plainChange, k int) bool {
	return p.coll == c.coll && k >= 0 && p.lowId <= c.id && c.id <= p.highId && p.lowest <= k && k <= p.topmost
}

func (p plainChange) change() impl.Change {
	c := impl.Change{Write: impl.Write{Coll: p.coll, Id: p.id, Gone: p.then < 0}}
	if p.then >= 0 {
		c.Write.Doc = thing(p.id, p.then)
	}
	if p.ahead >= 0 {
		c.Before, c.Was = thing(p.id, p.ahead), true
	}
	return c
}

func (p plainDone) done() impl.Done {
	d := impl.Done{Snap: p.snap, At: p.at, In: p.in, Out: p.out}
	for _, r := range p.reads {
		d.Reads = append(d.Reads, r.read())
	}
	for _, c := range p.changes {
		d.Changes = append(d.Changes, c.change())
	}
	return d
}

func plainList(list []plainDone) []impl.Done {
	var all []impl.Done
	for _, p := range list {
		all = append(all, p.done())
	}
	return all
}

func (p plainDone) readsFrom(o plainDone) bool {
	for _, r := range p.reads {
		for _, c := range o.changes {
			if r.asksFor(c, c.ahead) || r.asksFor(c, c.then) {
				return true
			}
		}
	}
	return false
}

func (p plainDone) changesAlso(o plainDone) bool {
	return slices.ContainsFunc(p.changes, func(c plainChange) bool {
		return slices.ContainsFunc(o.changes, func(d plainChange) bool { return c.coll == d.coll && c.id == d.id })
	})
}

// besides: each of the two began ahead of the other one's end.
func (p plainDone) besides(o plainDone) bool { return p.at > o.snap && o.at > p.snap }

// A certifyRun is a long one. All that were ever certified stay in whole, with flags by all pairs of
// them; kept are those that should stand in the list.
type certifyRun struct {
	r            *rand.Rand
	ids, reach   int
	whole        []plainDone
	kept         int
	codes        map[int]int
	edges, flags int
}

func (run *certifyRun) list() []plainDone { return run.whole[len(run.whole)-run.kept:] }

func (run *certifyRun) next() plainDone {
	clock := 0
	if n := len(run.whole); n > 0 {
		clock = run.whole[n-1].at
	}
	p := plainDone{at: clock + 1 + run.r.Intn(2), in: run.r.Intn(3) == 0, out: run.r.Intn(3) == 0}
	if run.r.Intn(15) == 0 {
		p.at = max(1, clock-run.r.Intn(3))
	}
	p.snap = max(0, p.at-1-run.r.Intn(run.reach))
	names := []string{"docs", "docs", "more"}
	for range run.r.Intn(4) {
		id, k := run.r.Intn(run.ids), run.r.Intn(6)
		p.reads = append(p.reads, plainRead{pick(run.r, names), id, id + run.r.Intn(4), k, k + run.r.Intn(9)})
	}
	for range run.r.Intn(4) {
		c := plainChange{pick(run.r, names), run.r.Intn(run.ids), run.r.Intn(12) - 3, run.r.Intn(12) - 3}
		if !p.changesAlso(plainDone{changes: []plainChange{c}}) {
			p.changes = append(p.changes, c)
		}
	}
	return p
}

// flagged are those of a list, with flags by all pairs that were at work at once.
func flagged(list []plainDone) []plainDone {
	list = slices.Clone(list)
	for i := range list {
		list[i].in, list[i].out = false, false
		for j := range list {
			if i != j && list[i].besides(list[j]) {
				list[i].in = list[i].in || list[j].readsFrom(list[i])
				list[i].out = list[i].out || list[i].readsFrom(list[j])
			}
		}
	}
	return list
}

func isPlainPivot(p plainDone) bool { return p.in && p.out }

// outcome is the code, and the whole as it should be then.
func (run *certifyRun) outcome(p plainDone) (int, []plainDone) {
	clash := func(o plainDone) bool { return o.at > p.snap && o.changesAlso(p) }
	more := flagged(append(slices.Clone(run.whole), p))
	switch {
	case slices.ContainsFunc(run.list(), func(o plainDone) bool { return o.at >= p.at }):
		return impl.ErrOrder, run.whole
	case slices.ContainsFunc(run.list(), clash):
		return impl.ErrConflict, run.whole
	case slices.ContainsFunc(more, isPlainPivot):
		return impl.ErrPivot, run.whole
	case run.kept == 30:
		return impl.ErrFull, run.whole
	}
	return impl.OK, more
}

// certify comes only with snapshots that nothing which was cleaned away is behind, as in a store.
func (run *certifyRun) certify(t *testing.T, list []impl.Done) []impl.Done {
	t.Helper()
	p := run.next()
	if cleaned := len(run.whole) - run.kept; cleaned > 0 {
		p.snap = max(p.snap, run.whole[cleaned-1].at)
		if p.at <= p.snap {
			return list
		}
	}
	code, whole := run.outcome(p)
	run.codes[code]++
	if code == impl.OK {
		run.kept++
	}
	run.whole = whole
	certifyIs(t, list, p.done(), code, plainList(run.list()))
	got, _ := impl.Certify(list, p.done())
	if code == impl.ErrOrder {
		return list
	}
	return got
}

func (run *certifyRun) clean(t *testing.T, list []impl.Done) []impl.Done {
	t.Helper()
	if len(list) == 0 {
		return list
	}
	oldest := list[0].At - 2 + run.r.Intn(list[len(list)-1].At-list[0].At+4)
	for run.kept > 0 && run.list()[0].at <= oldest {
		run.kept--
	}
	got, _ := impl.CleanDone(list, oldest)
	cleanIs(t, list, oldest, plainList(run.list()))
	return got
}

// holds asks for all that P10 says of a list that was made by Certify.
func (run *certifyRun) holds(t *testing.T, list []impl.Done) {
	t.Helper()
	var want []int
	for i, p := range run.list() {
		if list[i].In && list[i].Out || isPlainPivot(p) || !impl.DoneOK(list[i]) {
			t.Fatalf("a pivot: %s", shownDones(list))
		}
		if p.in || p.out {
			run.flags++
		}
		for j, o := range run.list() {
			if i != j && p.besides(o) && p.changesAlso(o) {
				t.Fatalf("two changed a document at once: %s", shownDones(list))
			}
			if i != j && (p.at <= o.snap || p.snap < o.at && p.readsFrom(o)) {
				want = append(want, i, j)
			}
		}
	}
	run.edges += len(want) / 2
	edgesAre(t, list, want...)
}

func (run *certifyRun) run(t *testing.T, steps, cleanOf int) {
	t.Helper()
	var list []impl.Done
	for range steps {
		if run.r.Intn(cleanOf) == 0 {
			list = run.clean(t, list)
		} else {
			list = run.certify(t, list)
		}
		run.holds(t, list)
		if t.Failed() {
			t.FailNow()
		}
	}
}

func TestP10LongRuns(t *testing.T) {
	codes, flags, edges := map[int]int{}, 0, 0
	for seed := range int64(6) {
		for _, ids := range []int{3, 8, impl.TopId + 1} {
			run := &certifyRun{r: rand.New(rand.NewSource(seed)), ids: ids, reach: 2 + int(seed), codes: codes}
			run.run(t, 250, 8)
			flags, edges = flags+run.flags, edges+run.edges
		}
	}
	if codes[impl.OK] < 1000 || codes[impl.ErrOrder] < 100 || codes[impl.ErrConflict] < 100 || codes[impl.ErrPivot] < 40 || flags < 1000 || edges < 10000 {
		t.Errorf("the runs have the codes %v, %d flags, %d edges", codes, flags, edges)
	}
}

// Lists are cleaned seldom here: they are filled.
func TestP10RunsToFullLists(t *testing.T) {
	codes := map[int]int{}
	for seed := range int64(4) {
		run := &certifyRun{r: rand.New(rand.NewSource(seed)), ids: impl.TopId + 1, reach: 6, codes: codes}
		run.run(t, 200, 60)
	}
	if codes[impl.ErrFull] < 100 || codes[impl.OK] < 100 || codes[impl.ErrConflict] < 10 || codes[impl.ErrPivot] < 5 {
		t.Errorf("the runs have the codes %v", codes)
	}
}

// Without a clean-up nobody is left that reads what another one at work changes, and whose own changes
// a third one reads: whatever was asked for.
func TestP10NobodyIsAPivot(t *testing.T) {
	for seed := range int64(40) {
		run := &certifyRun{r: rand.New(rand.NewSource(seed)), ids: 4, reach: 12, codes: map[int]int{}}
		var list []impl.Done
		for range 40 {
			list = run.certify(t, list)
		}
		for i, p := range run.whole {
			in, out := false, false
			for j, o := range run.whole {
				in = in || i != j && p.besides(o) && o.readsFrom(p)
				out = out || i != j && p.besides(o) && p.readsFrom(o)
			}
			if in && out || in != list[i].In || out != list[i].Out {
				t.Fatalf("%d of %s: In %v, Out %v", i, shownDones(list), in, out)
			}
		}
	}
}

// doneRight is DoneOK in other words.
func doneRight(d impl.Done) bool {
	if d.Snap < 0 || d.At > 10000 || d.Snap >= d.At || len(d.Reads) > 20 || len(d.Changes) > 60 {
		return false
	}
	for _, r := range d.Reads {
		if _, code := impl.NormalFilter(r.Filter); code != impl.OK || !shortName.MatchString(r.Coll) {
			return false
		}
	}
	count := map[string]int{}
	for _, c := range d.Changes {
		w := c.Write
		if w.Id < 0 || w.Id > 19 || !shortName.MatchString(w.Coll) {
			return false
		}
		if count[fmt.Sprint(w.Coll, " ", w.Id)]++; count[fmt.Sprint(w.Coll, " ", w.Id)] > 1 {
			return false
		}
		for _, side := range []struct {
			there bool
			doc   impl.Value
		}{{!w.Gone, w.Doc}, {c.Was, c.Before}} {
			id, code := impl.IdOf(side.doc)
			if side.there && (code != impl.OK || id != w.Id) || !side.there && side.doc != (impl.Value{}) {
				return false
			}
		}
	}
	return true
}

// spoilDone changes one thing.
func spoilDone(r *rand.Rand, d *impl.Done) {
	switch r.Intn(5) {
	case 0:
		d.Snap = pick(r, []int{-1, 0, 1, d.At - 1, d.At, d.At + 1})
	case 1:
		d.At = pick(r, []int{-1, 0, 1, d.Snap, d.Snap + 1, 9999, 10000, 10001})
	case 2:
		d.Reads = append(d.Reads, impl.Read{Coll: pick(r, []string{"docs", "", "9", "twelve_bytes", "thirteenchars"}), Filter: pick(r, []impl.Filter{everything(), {}, where(term(9, "a", intOf(6)))})})
	default:
		d.Changes = append(d.Changes, changeOf(pick(r, []string{"=1", "+2", "-3", "~4", "=more.1", "~19"})))
		spoilChange(r, &d.Changes[r.Intn(len(d.Changes))])
	}
}

func spoilChange(r *rand.Rand, c *impl.Change) {
	switch r.Intn(8) {
	case 0:
		c.Was = !c.Was
	case 1:
		c.Before = pick(r, []impl.Value{{}, thing(c.Write.Id, 5), thing(3, 5), boolOf(0)})
	case 2:
		c.Write.Gone = !c.Write.Gone
	case 3:
		c.Write.Doc = pick(r, []impl.Value{{}, thing(c.Write.Id, 5), thing(3, 5), boolOf(0)})
	case 4:
		c.Write.Id = pick(r, []int{-1, 0, 3, 19, 20})
	case 5:
		c.Write.Coll = pick(r, []string{"docs", "more", "9", "twelve_bytes", "thirteenchars"})
	}
}

func TestP10ChangedDones(t *testing.T) {
	r := rand.New(rand.NewSource(10))
	count := map[bool]int{}
	for range 4000 {
		run := &certifyRun{r: r, ids: 20, reach: 9}
		d := run.next().done()
		for range r.Intn(3) {
			spoilDone(r, &d)
		}
		right := doneRight(d)
		count[right]++
		if right {
			rightDone(t, shownDone(d), d)
		} else {
			wrongDone(t, shownDone(d), d)
		}
	}
	if count[true] < 1000 || count[false] < 1000 {
		t.Errorf("right and not: %v", count)
	}
}
