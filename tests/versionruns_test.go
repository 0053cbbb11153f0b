package tests

import (
	"fmt"
	"math/rand"
	"regexp"
	"slices"
	"strings"
	"testing"

	"loop.example/g00380/impl"
)

// A written is a row of a plain list of what was written when; the number of what went is below 0.
type written struct{ at, id, k int }

func (w written) write() impl.Write {
	if w.k < 0 {
		return gone(w.id)
	}
	return put(w.id, w.k)
}

// A versionRun is a long one of installs and vacuums. All that was ever written stays in its list,
// no number twice; kept is what should stand in the collection.
type versionRun struct {
	r             *rand.Rand
	ids           int
	list, kept    []written
	oldest, clock int
	codes         map[int]int
	vacuumed      int
}

// view is what a snapshot should see, by the whole list.
func (run *versionRun) view(snap int) string {
	var seen []string
	for id := range impl.TopId + 1 {
		last := written{k: -1}
		for _, w := range run.list {
			if w.id == id && w.at <= snap {
				last = w
			}
		}
		if last.k >= 0 {
			seen = append(seen, fmt.Sprintf("%d=%d", id, last.k))
		}
	}
	return strings.Join(seen, " ")
}

func (run *versionRun) keptOf(id int) []written {
	return slices.DeleteFunc(slices.Clone(run.kept), func(w written) bool { return w.id != id })
}

func (run *versionRun) coll(defs []impl.Def) impl.Coll {
	c := impl.Coll{Name: "docs", Defs: defs}
	for id := range impl.TopId + 1 {
		x := impl.Chain{Id: id}
		for _, w := range run.keptOf(id) {
			x.Versions = append(x.Versions, impl.Version{At: w.at, Gone: w.k < 0, Doc: w.write().Doc})
		}
		if len(x.Versions) > 0 {
			c.Chains = append(c.Chains, x)
		}
	}
	return c
}

func (run *versionRun) code(w written) int {
	old := run.keptOf(w.id)
	switch {
	case w.at < 1 || w.at > 10000:
		return impl.ErrRange
	case slices.ContainsFunc(old, func(o written) bool { return o.at >= w.at }):
		return impl.ErrOrder
	case len(old) == 12:
		return impl.ErrFull
	}
	return impl.OK
}

func (run *versionRun) install(t *testing.T, c impl.Coll) impl.Coll {
	t.Helper()
	// Behind what was vacuumed last: what is ahead of that no snapshot has a right to.
	w := written{at: max(run.oldest+1, run.clock-2+run.r.Intn(5)), id: run.r.Intn(run.ids), k: len(run.list)}
	if run.r.Intn(3) == 0 {
		w.k = -1
	}
	if run.r.Intn(40) == 0 {
		w.at = pick(run.r, []int{0, -1, 10001})
	}
	code := run.code(w)
	run.codes[code]++
	d := installIs(t, c, w.at, w.write(), code)
	if code == impl.OK {
		run.list, run.kept = append(run.list, w), append(run.kept, w)
		run.clock = max(run.clock, w.at)
	}
	if code == impl.ErrRange {
		return c
	}
	return d
}

// stays says of each row by itself whether a vacuum leaves it.
func stays(w written, rows []written, oldest int) bool {
	newer := func(o written) bool { return o.id == w.id && o.at > w.at && o.at <= oldest }
	return w.at > oldest || w.k >= 0 && !slices.ContainsFunc(rows, newer)
}

func (run *versionRun) vacuum(t *testing.T, c impl.Coll) impl.Coll {
	t.Helper()
	// At times earlier than the last vacuum's, too.
	oldest := run.oldest - 2 + run.r.Intn(run.clock-run.oldest+4)
	rows := run.kept
	run.kept = nil
	for _, w := range rows {
		if stays(w, rows, oldest) {
			run.kept = append(run.kept, w)
		}
	}
	run.vacuumed += len(rows) - len(run.kept)
	run.oldest = max(run.oldest, oldest)
	d, code := impl.Vacuum(c, oldest)
	if code != impl.OK {
		t.Fatalf("Vacuum(%s, %d): %d", shownColl(c), oldest, code)
	}
	return d
}

func (run *versionRun) holds(t *testing.T, c impl.Coll) {
	t.Helper()
	if want := run.coll(c.Defs); !sameColl(c, want) || !impl.CollOK(c) {
		t.Fatalf("at %d: %s, not %s", run.clock, shownColl(c), shownColl(want))
	}
	versionsAre(t, c, len(run.kept))
	for snap := run.oldest; snap <= run.clock+1; snap++ {
		seenIs(t, c, snap, run.view(snap))
	}
	for id := range impl.TopId + 1 {
		v, code := impl.LastAt(c, id)
		rows := run.keptOf(id)
		if len(rows) == 0 {
			if v != (impl.Version{}) || code != impl.ErrNone {
				t.Fatalf("LastAt(%s, %d) = %v, %d", shownColl(c), id, v, code)
			}
			continue
		}
		last := rows[len(rows)-1]
		if v != (impl.Version{At: last.at, Gone: last.k < 0, Doc: last.write().Doc}) || code != impl.OK {
			t.Fatalf("LastAt(%s, %d) = %v, %d, not %v", shownColl(c), id, v, code, last)
		}
	}
}

// keepsNothingIdle: whatever a vacuum leaves, unless it is behind and Gone, some snapshot sees.
func (run *versionRun) keepsNothingIdle(t *testing.T, c impl.Coll) {
	t.Helper()
	c, _ = impl.Vacuum(c, run.oldest)
	for _, x := range c.Chains {
		for _, v := range x.Versions {
			docs, _ := impl.SeenAt(c, max(run.oldest, v.At))
			if v.Gone && v.At <= run.oldest || !v.Gone && !slices.Contains(docs, v.Doc) {
				t.Fatalf("a vacuum at %d left %s", run.oldest, shownColl(c))
			}
		}
	}
}

func (run *versionRun) run(t *testing.T, c impl.Coll, steps, vacuumOf int) {
	t.Helper()
	run.codes = map[int]int{}
	for range steps {
		if run.r.Intn(vacuumOf) == 0 {
			c = run.vacuum(t, c)
			run.keepsNothingIdle(t, c)
		} else {
			c = run.install(t, c)
		}
		run.holds(t, c)
		if t.Failed() {
			t.FailNow()
		}
	}
}

func TestP9LongRuns(t *testing.T) {
	for seed := range int64(6) {
		for _, ids := range []int{1, 3, impl.TopId + 1} {
			run := &versionRun{r: rand.New(rand.NewSource(seed)), ids: ids}
			run.run(t, coll("", def("one", "k")), 250, 6)
			if run.codes[impl.OK] < 50 || run.codes[impl.ErrOrder] < 3 || run.vacuumed < 30 {
				t.Errorf("a run of %d ids has the codes %v, %d vacuumed", ids, run.codes, run.vacuumed)
			}
		}
	}
}

// Vacuums come seldom here: chains are filled.
func TestP9RunsToFullChains(t *testing.T) {
	for seed := range int64(4) {
		run := &versionRun{r: rand.New(rand.NewSource(seed)), ids: 2}
		run.run(t, coll(""), 250, 40)
		if run.codes[impl.ErrFull] < 10 || run.codes[impl.OK] < 30 {
			t.Errorf("a run has the codes %v", run.codes)
		}
	}
}

func TestP9RunsToTheLastTime(t *testing.T) {
	for seed := range int64(4) {
		run := &versionRun{r: rand.New(rand.NewSource(seed)), ids: 5, oldest: 9960, clock: 9960}
		run.run(t, coll("", def("one", "k"), def("two", "-id")), 250, 10)
		if run.codes[impl.ErrRange] < 10 || run.clock != impl.MaxClock {
			t.Errorf("a run ends at %d, codes %v", run.clock, run.codes)
		}
	}
}

var shortName = regexp.MustCompile(`^[A-Za-z_][A-Za-z0-9_]{0,11}\z`)

// collRight is CollOK in other words.
func collRight(c impl.Coll) bool {
	names, ids, last := map[string]int{}, map[int]int{}, -1
	for _, d := range c.Defs {
		if names[d.Name]++; names[d.Name] > 1 || !impl.DefOK(d) {
			return false
		}
	}
	for _, x := range c.Chains {
		if ids[x.Id]++; ids[x.Id] > 1 || x.Id < last || x.Id < 0 || x.Id > 19 || len(x.Versions) == 0 || len(x.Versions) > 12 {
			return false
		}
		last = x.Id
		for i, v := range x.Versions {
			id, code := impl.IdOf(v.Doc)
			if v.At < 1 || v.At > 10000 || i > 0 && v.At <= x.Versions[i-1].At {
				return false
			}
			if v.Gone && v.Doc != (impl.Value{}) || !v.Gone && (code != impl.OK || id != x.Id) {
				return false
			}
		}
	}
	return shortName.MatchString(c.Name) && len(c.Defs) <= 3
}

// junkColl is a right collection with a few things in it changed.
func junkColl(r *rand.Rand) impl.Coll {
	c := impl.Coll{Name: pick(r, []string{"docs", "a", "more"}), Defs: slices.Clone([]impl.Def{def("one", "a"), def("two", "b"), def("three", "a")}[:r.Intn(4)])}
	for id := r.Intn(4); id < 20; id += 1 + r.Intn(6) {
		x := impl.Chain{Id: id}
		for at := 1 + r.Intn(3); len(x.Versions) < 1+r.Intn(12); at += 1 + r.Intn(3) {
			v := impl.Version{At: at, Doc: thing(id, at)}
			if r.Intn(3) == 0 {
				v = impl.Version{At: at, Gone: true}
			}
			x.Versions = append(x.Versions, v)
		}
		c.Chains = append(c.Chains, x)
	}
	for range r.Intn(3) {
		spoil(r, &c)
	}
	return c
}

func spoil(r *rand.Rand, c *impl.Coll) {
	if r.Intn(6) == 0 {
		c.Name = pick(r, []string{"", "9", "more", "thirteenchars", "twelve_bytes", "a\n"})
		return
	}
	if r.Intn(5) == 0 {
		c.Defs = append(c.Defs, def(pick(r, []string{"one", "two", "four", "9"}), pick(r, []string{"a", "b.c", ""})))
		return
	}
	x := &c.Chains[r.Intn(len(c.Chains))]
	if len(x.Versions) == 0 {
		return
	}
	v := &x.Versions[r.Intn(len(x.Versions))]
	switch r.Intn(6) {
	case 0:
		x.Id = pick(r, []int{-1, 0, 1, 7, 19, 20})
	case 1:
		x.Versions = x.Versions[1:]
	case 2:
		v.At = pick(r, []int{-1, 0, 1, 2, v.At + 1, 9999, 10000, 10001})
	case 3:
		v.Gone = !v.Gone
	case 4:
		v.Doc = pick(r, []impl.Value{{}, thing(x.Id, 99), thing(x.Id, 98), thing(3, 1), record("k", num(1)).value(), boolOf(1)})
	case 5:
		c.Chains = append(c.Chains, impl.Chain{Id: x.Id + r.Intn(2), Versions: slices.Clone(x.Versions)})
	}
}

func TestP9ChangedColls(t *testing.T) {
	r := rand.New(rand.NewSource(99))
	count := map[bool]int{}
	for range 6000 {
		c := junkColl(r)
		right := collRight(c)
		count[right]++
		if right {
			rightColl(t, shownColl(c), c)
		} else {
			wrongColl(t, shownColl(c), c)
		}
	}
	if count[true] < 1000 || count[false] < 1000 {
		t.Errorf("right and not: %v", count)
	}
}
