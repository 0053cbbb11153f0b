package tests

import (
	"fmt"
	"slices"
	"testing"

	"loop.example/g00380/impl"
)

// serialIsHeld holds SerialHolds to a bool and a code.
func serialIsHeld(t *testing.T, what string, w impl.World, want bool, code int) {
	t.Helper()
	if held, k := impl.SerialHolds(w); held != want || k != code {
		t.Errorf("SerialHolds, %s, of %s: %v, %d, not %v, %d", what, shownWorld(w), held, k, want, code)
	}
}

// heldRun is what a run of lines leaves, behind each of which the theorem holds.
func heldRun(t *testing.T, lines ...string) impl.World {
	t.Helper()
	w := impl.NewWorld()
	for _, line := range lines {
		w = worldTalk(t, w, line)
		serialIsHeld(t, line, w, true, impl.OK)
	}
	return w
}

// pastOrder holds the serial order of a world's Past to places.
func pastOrder(t *testing.T, w impl.World, want ...int) {
	t.Helper()
	orderIs(t, donesOf(w.Past), want...)
}

func TestP14OfOneSession(t *testing.T) {
	w := heldRun(t, "0 insert 1=1: ok 1", "0 begin: ok 0", "0 inc *: ok 1", "0 find *: ok 1 1=2", "0 insert 1=1: twice", "0 insert more.2=2: ok 1", "0 commit: ok 0", "0 commit: state", "0 begin: ok 0", "0 delete *: ok 1", "0 find *: ok 0", "0 abort: ok 0", "0 find *: ok 1 1=2", "0 delete *more: ok 1")
	pastOrder(t, w, 0, 1, 2, 3)
}

// Sessions side by side, of which one reads what another one changes: it comes ahead of that one.
func TestP14OfSessionsSideBySide(t *testing.T) {
	w := heldRun(t, "0 insert 1=1: ok 1", "1 begin: ok 0", "1 find *: ok 1 1=1", "2 begin: ok 0", "2 inc *: ok 1", "2 commit: ok 0", "1 find *: ok 1 1=1", "1 insert more.1=1: ok 1", "1 commit: ok 0", "0 find *: ok 1 1=2")
	pastOrder(t, w, 0, 2, 1, 3)
	// A phantom: what was not there is read, too.
	w = heldRun(t, "1 begin: ok 0", "1 count *: ok 0", "2 insert 1=1: ok 1", "3 insert 1=2: twice", "1 count *: ok 0", "1 insert more.1=1: ok 1", "1 commit: ok 0")
	pastOrder(t, w, 1, 0)
	// Three, one reading what the next one changed.
	w = heldRun(t, "0 insert 1=1: ok 1", "0 insert 2=2: ok 1", "0 insert 3=3: ok 1", "1 begin: ok 0", "2 begin: ok 0", "3 begin: ok 0", "1 inc ?1: ok 1", "2 find ?1: ok 1 1=1", "3 find ?3: ok 1 3=3", "1 commit: ok 0", "2 commit: ok 0", "3 commit: ok 0")
	pastOrder(t, w, 0, 1, 2, 4, 3, 5)
	// Who is still open is in nobody's way.
	heldRun(t, "0 insert 1=1: ok 1", "1 begin: ok 0", "1 delete *: ok 1", "2 find *: ok 1 1=1", "2 inc *: ok 1", "0 count *: ok 1", "3 begin: ok 0", "3 find *: ok 1 1=2")
}

func TestP14OfRefusedCommits(t *testing.T) {
	things := []string{"0 insert 1=1: ok 1", "0 insert 2=2: ok 1", "1 begin: ok 0", "2 begin: ok 0"}
	w := heldRun(t, append(things, "1 inc ?1: ok 1", "2 inc ?1: ok 1", "1 commit: ok 0", "2 commit: conflict", "2 find *: ok 2 1=2 2=2")...)
	pastOrder(t, w, 0, 1, 2, 3)
	w = heldRun(t, append(things, "1 find ?1: ok 1 1=1", "2 find ?2: ok 1 2=2", "1 inc ?2: ok 1", "2 inc ?1: ok 1", "1 commit: ok 0", "2 commit: pivot", "2 find *: ok 2 1=1 2=3")...)
	pastOrder(t, w, 0, 1, 2, 3)
	// One that only reads is refused, where another one would be a pivot otherwise.
	heldRun(t, append(things, "1 find ?1: ok 1 1=1", "1 inc ?2: ok 1", "2 inc ?1: ok 1", "2 commit: ok 0", "3 begin: ok 0", "3 find *: ok 2 1=2 2=2", "1 commit: ok 0", "3 commit: pivot", "0 find *: ok 2 1=2 2=3")...)
}

func TestP14OfAborts(t *testing.T) {
	w := heldRun(t, "0 insert 1=1: ok 1", "1 begin: ok 0", "1 inc *: ok 1", "2 begin: ok 0", "2 find *: ok 1 1=1", "1 find *: ok 1 1=2", "1 abort: ok 0", "2 inc *: ok 1", "2 commit: ok 0", "1 find *: ok 1 1=2", "3 begin: ok 0", "3 delete *: ok 1", "3 abort: ok 0", "3 abort: state")
	pastOrder(t, w, 0, 1, 2)
}

func TestP14OfCommandsAloneBetweenOpenOnes(t *testing.T) {
	w := heldRun(t, "0 insert 1=1: ok 1", "0 index docs.one k: ok 0", "1 begin: ok 0", "1 find >0: ok 1 1=1", "0 insert 2=2: ok 1", "0 inc *: ok 2", "1 find >0: ok 1 1=1", "2 begin: ok 0", "2 find >0: ok 2 1=2 2=3", "0 delete ?1: ok 1", "1 insert more.1=1: ok 1", "2 insert more.2=2: ok 1", "0 drop docs.one: busy", "1 commit: ok 0", "2 commit: ok 0", "0 find *: ok 1 2=3", "0 drop docs.one: ok 0")
	pastOrder(t, w, 0, 4, 1, 2, 5, 3, 6)
}

// bentRun is a world of bound pasts, all of which tell something.
func bentRun(t *testing.T) impl.World {
	t.Helper()
	w := heldRun(t, "0 insert 1=1: ok 1", "1 begin: ok 0", "1 find *: ok 1 1=1", "0 inc *: ok 1", "1 insert more.3=3: ok 1", "1 insert 1=5: twice", "1 commit: ok 0", "2 begin: ok 0", "2 find *: ok 1 1=2", "2 inc *more: ok 1", "2 commit: ok 0")
	pastOrder(t, w, 0, 2, 1, 3)
	return w
}

// bent is w with own pasts, of which one is changed.
func bent(w impl.World, place int, bend func(p *impl.Past)) impl.World {
	w.Past = slices.Clone(w.Past)
	w.Past[place].Steps = slices.Clone(w.Past[place].Steps)
	bend(&w.Past[place])
	return w
}

func TestP14RepliesThatDiffer(t *testing.T) {
	w := bentRun(t)
	for place, p := range w.Past {
		for i := range p.Steps {
			for what, spoil := range map[string]func(r *impl.Reply){
				"an N more": func(r *impl.Reply) { r.N++ }, "another code": func(r *impl.Reply) { r.Code = impl.ErrOrder - r.Code }, "a document more": func(r *impl.Reply) { r.Docs = append(slices.Clone(r.Docs), thing(1, 1)) },
				"what no store tells": func(r *impl.Reply) { r.N, r.Docs = -1, make([]impl.Value, 100) },
			} {
				x := bent(w, place, func(p *impl.Past) { spoil(&p.Steps[i].Reply) })
				serialIsHeld(t, fmt.Sprintf("%s at %d of %d", what, i, place), x, false, impl.OK)
			}
		}
	}
	x := bent(w, 2, func(p *impl.Past) { p.Steps[0].Reply = reply("ok 1 1=2") })
	serialIsHeld(t, "another document", x, false, impl.OK)
	x = bent(w, 3, func(p *impl.Past) { p.Steps[0].Reply = reply("ok 1") })
	serialIsHeld(t, "a document less", x, false, impl.OK)
	// A Step more, one less, and another command.
	serialIsHeld(t, "a Step more", bent(w, 1, func(p *impl.Past) { p.Steps = append(p.Steps, steps("0 count *: ok 9")...) }), false, impl.OK)
	serialIsHeld(t, "a Step more, told rightly", bent(w, 1, func(p *impl.Past) { p.Steps = append(p.Steps, steps("0 count *: ok 1")...) }), true, impl.OK)
	serialIsHeld(t, "a Step less", bent(w, 3, func(p *impl.Past) { p.Steps = p.Steps[:1] }), false, impl.OK)
	serialIsHeld(t, "another command", bent(w, 0, func(p *impl.Past) { p.Steps[0].Command.Doc = thing(2, 1) }), false, impl.OK)
	serialIsHeld(t, "another session", bent(w, 0, func(p *impl.Past) { p.Steps[0].Command.Session = 3 }), true, impl.OK)
}

func TestP14PastsThatAreMissing(t *testing.T) {
	w := bentRun(t)
	for place := range w.Past {
		x := w
		x.Past = slices.Delete(slices.Clone(w.Past), place, place+1)
		serialIsHeld(t, fmt.Sprint("without ", place), x, false, impl.OK)
	}
	x := w
	x.Past = nil
	serialIsHeld(t, "without any", x, false, impl.OK)
	x.Past = w.Past[:2]
	serialIsHeld(t, "without the last two", x, false, impl.OK)
	// One that changed nothing is not missed.
	w = heldRun(t, "0 insert 1=1: ok 1", "0 find *: ok 1 1=1", "0 insert 2=2: ok 1")
	w.Past = slices.Delete(w.Past, 1, 2)
	serialIsHeld(t, "without one that read", w, true, impl.OK)
	// Nor is one too many that changes nothing.
	w.Past = append(w.Past, past("7 9 ?5", "3 find ?5: ok 0"))
	serialIsHeld(t, "one more that read", w, true, impl.OK)
	w.Past = append(w.Past, past("9 10 ?5 +5", "3 insert 5=2: ok 1"))
	serialIsHeld(t, "one more that wrote", w, false, impl.OK)
}

func TestP14DocumentsThatDiffer(t *testing.T) {
	w := bentRun(t)
	if !sameStore(w.Store, chains(4, "1 2=2", "3 4=4")) {
		t.Fatalf("the store is %s", shownStore(w.Store))
	}
	for what, s := range map[string]impl.Store{
		"another number": chains(4, "1 2=3", "3 4=4"), "another id": chains(4, "2 2=2", "3 4=4"), "one more": chains(4, "1 2=2", "3 4=4|4 4=4"), "one less": chains(4, "1 2=2", ""), "one that is Gone": chains(4, "1 2=2 4-", "3 4=4"), "none": chains(4, "", ""),
		"the other way round": chains(4, "3 4=4", "1 2=2"), "an older one": chains(4, "1 1=1", "3 4=4"), "other names": storeOf(4, named("a", "1 2=2"), named("b", "3 4=4")), "another name": storeOf(4, coll("1 2=2"), named("most", "3 4=4")),
		"a collection more": storeOf(4, named("a", ""), coll("1 2=2"), named("more", "3 4=4")), "a collection less": storeOf(4, coll("1 2=2")),
	} {
		x := w
		x.Store = s
		serialIsHeld(t, what, x, false, impl.OK)
	}
	// All else of a store is not asked.
	for what, s := range map[string]impl.Store{
		"another Clock": chains(impl.MaxClock, "1 2=2", "3 4=4"), "other times": chains(9, "1 9=2", "3 1=4"), "old versions": chains(9, "1 1=7 3- 5=2|7 1=7 2-", "3 4=4"), "open ones": withTxns(chains(4, "1 2=2", "3 4=4"), "0 1 ?1 1=7", "3 4"), "committed ones": withDone(chains(4, "1 2=2", "3 4=4"), "0 3 ?1 in|1 4 =1"),
		"an index": storeOf(4, coll("1 2=2", def("one", "k")), named("more", "3 4=4", def("two", "a", "-b"))),
	} {
		x := w
		x.Store = s
		serialIsHeld(t, what, x, true, impl.OK)
	}
	// Nor is what is open.
	x := withSteps(w, 1, steps("1 insert 1=1: busy", "2 delete *: ok 7"))
	x.Open[2].Done = done("3 3")
	serialIsHeld(t, "what is open", x, true, impl.OK)
}

func TestP14PastsThatDoNotRise(t *testing.T) {
	w := bentRun(t)
	for i := range w.Past {
		for j := range i {
			x := w
			x.Past = slices.Clone(w.Past)
			x.Past[i], x.Past[j] = x.Past[j], x.Past[i]
			serialIsHeld(t, fmt.Sprint(i, " and ", j, " the other way round"), x, false, impl.ErrBad)
		}
		serialIsHeld(t, "twice", impl.World{Store: w.Store, Open: w.Open, Past: slices.Insert(slices.Clone(w.Past), i, w.Past[i])}, false, impl.ErrBad)
	}
	// It is told whatever the replies and the documents are, and ahead of a ring.
	serialIsHeld(t, "that differ", worldOf(chains(3, "1 1=1", ""), past("0 2", "0 find *: ok 9"), past("0 1")), false, impl.ErrBad)
	serialIsHeld(t, "a ring", worldOf(fresh(), pastsOf(dones("0 2 ?1 =2|0 2 ?2 =1"))...), false, impl.ErrBad)
	for _, n := range []int{2, 39, 40} {
		list := pastsOf(manyDones(n))
		serialIsHeld(t, "that rise", worldOf(fresh(), list...), true, impl.OK)
		list[n-1].Done.Snap, list[n-1].Done.At = 0, n-1
		serialIsHeld(t, "the last one does not rise", worldOf(fresh(), list...), false, impl.ErrBad)
	}
}

func TestP14RingsOfPasts(t *testing.T) {
	// Without Steps nothing is told, and nothing done: only the order tells.
	for text, want := range map[string]bool{
		"0 1 ?1 =2|0 2 ?2 =1": false, "0 1 ?1 =2|0 2 =1": true, "0 1 =2|0 2 ?2 =1": true, "0 1 ?1 =2|1 2 ?2 =1": true, "0 3 ?1 =2|2 9 ?2 =1": false, "0 1 ?1 =2|0 2 ?2 =3|0 3 ?3 =1": false, "0 1 ?1 =2|0 2 ?2 =3|0 3 =1": true, "0 1|0 2 ?1 =2|0 3 ?2 =1": false,
		// What flags say is not asked.
		"0 1 in out|0 2 in out": true, "0 1 ?1 =2 in|0 2 =1 out": true,
	} {
		serialIsHeld(t, text, worldOf(fresh(), pastsOf(dones(text))...), want, impl.OK)
	}
	// Two that each read what the other one changed, which were both told what stood there ahead.
	w := heldRun(t, "0 insert 1=1: ok 1", "0 insert 2=2: ok 1", "1 begin: ok 0", "2 begin: ok 0", "1 find ?1: ok 1 1=1", "2 find ?2: ok 1 2=2", "1 inc ?2: ok 1")
	x := worldTalk(t, w, "2 inc ?1: ok 1")
	one, two := x, worldTalk(t, x, "2 commit: ok 0")
	one = worldTalk(t, one, "1 commit: ok 0")
	two.Past = append(two.Past, one.Past[2])
	two.Past[3].Done.At = 4
	two.Store = chains(4, "1 3=2|2 4=3", "")
	noOrderOf(t, "both", donesOf(two.Past), impl.ErrOrder)
	serialIsHeld(t, "both", two, false, impl.OK)
	// All that is in the way of an order may tell truly otherwise: here the store has just those documents.
	serialIsHeld(t, "the first alone", one, true, impl.OK)
}

// The order is by reads: without one that it hangs on, the replay is told otherwise.
func TestP14ReadsThatAreMissing(t *testing.T) {
	w := bentRun(t)
	x := bent(w, 2, func(p *impl.Past) { p.Done.Reads = nil })
	pastOrder(t, x, 0, 1, 2, 3)
	serialIsHeld(t, "no reads", x, false, impl.OK)
	x = bent(w, 1, func(p *impl.Past) { p.Done.Changes = nil })
	pastOrder(t, x, 0, 1, 2, 3)
	serialIsHeld(t, "no changes", x, false, impl.OK)
	x = bent(w, 2, func(p *impl.Past) { p.Done.Snap = 2 })
	pastOrder(t, x, 0, 1, 2, 3)
	serialIsHeld(t, "a later Snap", x, false, impl.OK)
	for place := range w.Past {
		x = bent(w, place, func(p *impl.Past) { p.Done.In, p.Done.Out = true, true })
		serialIsHeld(t, "with flags", x, true, impl.OK)
	}
}
