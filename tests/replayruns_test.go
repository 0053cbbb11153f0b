package tests

import (
	"math/rand"
	"slices"
	"testing"

	"loop.example/g00380/impl"
)

// A recorder does commands, and keeps of all that were committed what they read and changed, and what
// they asked and were told.
type recorder struct {
	s    impl.Store
	open [impl.MaxSessions][]impl.Step
	past []impl.Past
}

// doneBy is what is certified when a transaction of a store commits.
func doneBy(t *testing.T, s impl.Store, x impl.Txn) impl.Done {
	t.Helper()
	changes, code := impl.ChangesOf(x, s.Colls)
	if code != impl.OK {
		t.Fatalf("ChangesOf: %d", code)
	}
	return impl.Done{Snap: x.Snap, At: s.Clock + 1, Reads: x.Reads, Changes: changes}
}

func (x *recorder) do(t *testing.T, c impl.Command) impl.Reply {
	t.Helper()
	before := x.s
	s, r, code := impl.Do(before, c)
	if code != impl.OK {
		t.Fatalf("Do: %d", code)
	}
	x.s = s
	at := slices.IndexFunc(before.Txns, func(o impl.Txn) bool { return o.Session == c.Session })
	step := impl.Step{Command: c, Reply: r}
	switch {
	case c.Kind >= impl.CoIndex:
	case c.Kind == impl.CoBegin:
	case c.Kind == impl.CoAbort:
		x.open[c.Session] = nil
	case c.Kind == impl.CoCommit && at < 0:
	case c.Kind == impl.CoCommit:
		if r.Code == impl.OK {
			x.past = append(x.past, impl.Past{Done: doneBy(t, before, before.Txns[at]), Steps: x.open[c.Session]})
		}
		x.open[c.Session] = nil
	case at >= 0:
		x.open[c.Session] = append(x.open[c.Session], step)
	case r.Code == impl.OK:
		call := asTxn(before, impl.Txn{Session: c.Session, Snap: before.Clock}, c)
		x.past = append(x.past, impl.Past{Done: doneBy(t, before, call.x), Steps: []impl.Step{step}})
	}
	return r
}

// recorded are the pasts of a long run, until there are as many as there may be.
func recorded(t *testing.T, seed int64, alone int) *recorder {
	t.Helper()
	run := newStoreRun(rand.New(rand.NewSource(seed)), 0, map[string]int{})
	run.alone = alone
	x := &recorder{s: run.store()}
	for step := 0; step < 220 && len(x.past) < impl.MaxPast; step++ {
		x.do(t, run.next(impl.CoBegin, impl.CoBegin, impl.CoCommit, impl.CoCommit, impl.CoAbort))
	}
	return x
}

// All that were committed, one by one in their serial order, are told the same, and leave the same
// documents; in another order they are told what they are told then.
func TestP13RecordedPasts(t *testing.T) {
	moved, longest := 0, 0
	count := map[bool]int{}
	for seed := range int64(120) {
		x := recorded(t, 1330+seed, []int{0, 0, 0, 2}[seed%4])
		order, code := impl.SerialOrder(donesOf(x.past))
		if code != impl.OK {
			t.Fatalf("SerialOrder of %s: %d", shownDones(donesOf(x.past)), code)
		}
		keepsPairs(t, donesOf(x.past), order)
		s, same, code := impl.Replay(runNames, x.past, order)
		if !same || code != impl.OK || s.Clock != len(order) {
			t.Fatalf("Replay in the order %v: %v, %d, %s", order, same, code, shownStore(s))
		}
		docsAreSame(t, "what it leaves", s, x.s, true, impl.OK)
		y, _ := replayed(t, runNames, x.past, order)
		storeIs(t, "done by hand", s, y)
		if !slices.IsSorted(order) {
			moved++
		}
		longest = max(longest, len(order))
		for what, other := range otherOrders(rand.New(rand.NewSource(seed)), order) {
			y, same := replayed(t, runNames, x.past, other)
			replayIs(t, what, runNames, x.past, other, same, y)
			count[same]++
		}
	}
	if moved < 15 || longest < impl.MaxPast || count[true] < 30 || count[false] < 200 {
		t.Errorf("not as they stood: %d, the longest %d, the same and not in another order: %v", moved, longest, count)
	}
}

// otherOrders have places otherwise than an order, or not all of them.
func otherOrders(r *rand.Rand, order []int) map[string][]int {
	rising := slices.Sorted(slices.Values(order))
	falling := slices.Clone(rising)
	slices.Reverse(falling)
	shuffled := slices.Clone(order)
	r.Shuffle(len(shuffled), func(i, j int) { shuffled[i], shuffled[j] = shuffled[j], shuffled[i] })
	twice := slices.Clone(order)
	if n := len(twice); n > 0 {
		twice[r.Intn(n)] = twice[r.Intn(n)]
	}
	return map[string][]int{"as they stood": rising, "the other way round": falling, "shuffled": shuffled, "one twice": twice, "the first half": order[:len(order)/2], "the second half": order[len(order)/2:]}
}

// Of two that stand side by side in the serial order and are not bound, either may come first; of two
// that are bound the replies tell most often that they were parted.
func TestP13PartedPairs(t *testing.T) {
	parted := 0
	for seed := range int64(60) {
		r := rand.New(rand.NewSource(1350 + seed))
		x := &recorder{s: fresh()}
		for step := 0; step < 60 && len(x.past) < 8; step++ {
			c := command(pick(r, []string{"0", "1", "2", "3"}) + " " + pick(r, []string{"begin", "begin", "commit", "commit", "find *", "find *more", "insert 1=1", "insert 2=2", "insert more.3=3", "inc *", "inc *more", "delete *"}))
			x.do(t, c)
		}
		list := donesOf(x.past)
		order, code := impl.SerialOrder(list)
		if code != impl.OK {
			t.Fatalf("SerialOrder of %s: %d", shownDones(list), code)
		}
		if _, same, _ := impl.Replay(twoNames, x.past, order); !same {
			t.Fatalf("Replay in the order %v: not the same", order)
		}
		for i := range max(0, len(order)-1) {
			a, b := order[i], order[i+1]
			swapped := slices.Clone(order)
			swapped[i], swapped[i+1] = b, a
			pairs, _ := impl.EdgesOf([]impl.Done{list[min(a, b)], list[max(a, b)]})
			s, same, _ := impl.Replay(twoNames, x.past, swapped)
			if len(pairs) > 0 {
				if !same {
					parted++
				}
				continue
			}
			if docs, _ := impl.SameDocs(s, x.s); !same || !docs {
				t.Fatalf("Replay in the order %v, where %d and %d are not bound: %v, %v", swapped, a, b, same, docs)
			}
		}
	}
	if parted < 60 {
		t.Errorf("%d parted pairs told", parted)
	}
}
