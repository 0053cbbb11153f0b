package tests

import (
	"fmt"
	"math"
	"math/rand"
	"slices"
	"testing"

	"loop.example/g00380/impl"
)

// worldOf has nothing open but what the store says.
func worldOf(s impl.Store, list ...impl.Past) impl.World {
	return impl.World{Store: s, Open: make([]impl.Past, impl.MaxSessions), Past: list}
}

// withSteps is w with these as the Steps of a session.
func withSteps(w impl.World, session int, list []impl.Step) impl.World {
	w.Open = slices.Clone(w.Open)
	w.Open[session].Steps = list
	return w
}

// sameOpen is of Steps alone, which alone count.
func sameOpen(a, b impl.Past) bool { return slices.EqualFunc(a.Steps, b.Steps, sameStep) }

func sameWorld(a, b impl.World) bool {
	return sameStore(a.Store, b.Store) && slices.EqualFunc(a.Open, b.Open, sameOpen) && slices.EqualFunc(a.Past, b.Past, samePast)
}

func isZeroWorld(w impl.World) bool { return sameWorld(w, impl.World{}) }

func shownSteps(list []impl.Step) string {
	text := ""
	for _, step := range list {
		text += fmt.Sprintf("; %d of %.20q by %d: %.60s", step.Command.Kind, step.Command.Coll, step.Command.Session, shownReply(step.Reply))
	}
	return fmt.Sprintf("{%.300s}", text)
}

func shownWorld(w impl.World) string {
	text := fmt.Sprintf("%.500s, open", shownStore(w.Store))
	for _, p := range w.Open {
		text += " " + shownSteps(p.Steps)
	}
	text += fmt.Sprint(", ", len(w.Past), " past:")
	for _, p := range w.Past {
		text += fmt.Sprintf(" %.200s %s", shownDone(p.Done), shownSteps(p.Steps))
	}
	return fmt.Sprintf("%.3000s", text)
}

// worldIs holds a world to another one, all of it.
func worldIs(t *testing.T, what string, w, want impl.World) {
	t.Helper()
	if !sameWorld(w, want) {
		t.Errorf("%s: %s, not %s", what, shownWorld(w), shownWorld(want))
	}
}

// wrongWorld holds all calls to it that a world isn't right, whatever else they are given.
func wrongWorld(t *testing.T, what string, w impl.World) {
	t.Helper()
	if impl.WorldOK(w) {
		t.Errorf("WorldOK, %s: it is right", what)
	}
	for _, c := range append(oneOfEach(), impl.Command{}, command("0 find *none"), command("3 begin")) {
		notDone(t, what, w, c, impl.ErrBad)
	}
	serialIsHeld(t, what, w, false, impl.ErrBad)
}

// rightWorld holds all calls to it that a world is right: each Kind comes to what a recorder has.
func rightWorld(t *testing.T, what string, w impl.World) {
	t.Helper()
	if !impl.WorldOK(w) {
		t.Errorf("WorldOK, %s: it is not right", what)
	}
	for _, c := range oneOfEach() {
		if len(w.Past) < impl.MaxPast && len(w.Open[c.Session].Steps) < 100 {
			worldDoes(t, what, w, c)
		} else {
			notDone(t, what, w, c, impl.ErrMany)
		}
	}
	want := impl.OK
	for i := 1; i < len(w.Past); i++ {
		if w.Past[i].Done.At <= w.Past[i-1].Done.At {
			want = impl.ErrBad
		}
	}
	if held, code := impl.SerialHolds(w); code != want || held && code != impl.OK {
		t.Errorf("SerialHolds, %s: %v, %d, not %d", what, held, code, want)
	}
}

func worldIsRight(t *testing.T, what string, w impl.World, right bool) {
	t.Helper()
	if right {
		rightWorld(t, what, w)
	} else {
		wrongWorld(t, what, w)
	}
}

func TestP14NewWorld(t *testing.T) {
	if impl.MaxCommands != 100 || impl.MaxPast != 40 || impl.MaxSessions != 4 {
		t.Errorf("MaxCommands %d, MaxPast %d, MaxSessions %d", impl.MaxCommands, impl.MaxPast, impl.MaxSessions)
	}
	w := impl.NewWorld()
	worldIs(t, "NewWorld", w, worldOf(fresh()))
	for i, p := range w.Open {
		if !samePast(p, impl.Past{}) {
			t.Errorf("the Open past %d of a new world: %s %s", i, shownDone(p.Done), shownSteps(p.Steps))
		}
	}
	rightWorld(t, "a new one", w)
	serialIsHeld(t, "a new one", w, true, impl.OK)
	// Whatever becomes of it, the next one is as new.
	w.Store.Colls[0].Name, w.Store.Colls[1] = "spoilt", impl.Coll{}
	w.Open[0], w.Open[3].Steps = past("0 1"), steps("0 find *: ok 0")
	worldIs(t, "NewWorld once more", impl.NewWorld(), worldOf(fresh()))
}

func TestP14WorldsOfStores(t *testing.T) {
	wrongWorld(t, "a zero one", impl.World{})
	wrongWorld(t, "a zero store", worldOf(impl.Store{}))
	for what, s := range map[string]impl.Store{
		"behind the Clock": storeOf(1, coll("1 2=1"), named("more", "")), "falling": storeOf(9, named("more", ""), coll("")), "four": storeOf(9, named("a", ""), named("b", ""), named("c", ""), named("d", "")),
		"a wrong transaction": withTxns(fresh(), "4 0"), "a write of no collection": withTxns(fresh(), "0 0 none.1=1"), "a pivot": withDone(storeOf(9, coll("")), "0 3 in out"),
	} {
		wrongWorld(t, what, worldOf(s))
		wrongWorld(t, what, withSteps(worldOf(s, threePasts()...), 1, steps("1 find *: ok 0")))
	}
	for what, s := range map[string]impl.Store{
		"a Clock": storeOf(7, coll(""), named("more", "")), "the last Clock": storeOf(impl.MaxClock, coll("1 2=1"), named("more", "")), "open ones": withTxns(chains(6, "1 2=1 6=2|5 3=3 4-", ""), "0 6", "1 5 ?1 1=7", "3 0"),
		"committed ones": withDone(withTxns(chains(6, "1 2=1 6=2", "2 5=3"), "1 1"), "1 2 ?1 in|1 5 =more.2 out|4 6 =1"), "an index": storeOf(2, coll("1 2=1", def("one", "k")), named("more", "")),
		// It began as docs and more; that it has only these now is not asked.
		"other names": storeOf(2, named("a", "1 2=1"), named("b", "")), "one collection": storeOf(2, coll("1 2=1")), "three": storeOf(2, named("a", ""), coll("1 2=1"), named("more", "")),
	} {
		rightWorld(t, what, worldOf(s))
		rightWorld(t, what, withSteps(worldOf(s, threePasts()...), 1, steps("1 find *: ok 0", "1 inc *: ok 0")))
	}
}

func TestP14HowManyOpenPasts(t *testing.T) {
	for _, n := range []int{0, 1, 2, 3, 4, 5, 6, 8, 100, impl.MaxList, impl.MaxList + 1} {
		w := worldOf(fresh())
		w.Open = make([]impl.Past, n)
		worldIsRight(t, fmt.Sprint(n, " Open pasts"), w, n == 4)
		for i := range w.Open {
			w.Open[i].Steps = steps("1 find *: ok 0")
		}
		worldIsRight(t, fmt.Sprint(n, " Open pasts of a Step"), w, n == 4)
	}
	w := worldOf(fresh())
	w.Open = nil
	wrongWorld(t, "no Open pasts", w)
}

func TestP14HowManyOpenSteps(t *testing.T) {
	for session := range impl.MaxSessions {
		for _, n := range []int{0, 1, 99, 100, 101, 102, impl.MaxList, impl.MaxList + 1} {
			w := withSteps(worldOf(fresh()), session, slices.Repeat(steps("0 find *: ok 0"), n))
			worldIsRight(t, fmt.Sprint(n, " Steps of ", session), w, n <= 100)
		}
	}
	w := worldOf(fresh())
	for session := range impl.MaxSessions {
		w = withSteps(w, session, slices.Repeat(steps("0 find *: ok 0"), 100))
	}
	rightWorld(t, "100 Steps of each", w)
	wrongWorld(t, "and one more", withSteps(w, 2, append(slices.Clone(w.Open[2].Steps), w.Open[0].Steps[0])))
}

// Of an Open past the Done is anything at all, and of its Steps only how many they are is asked.
func TestP14OpenDonesDoNotCount(t *testing.T) {
	for session := range impl.MaxSessions {
		for _, d := range []impl.Done{done("3 3"), done("-1 10001"), done("0 1 =1 =1 in out"), {Reads: make([]impl.Read, impl.MaxList+1)}, {Snap: math.MinInt, At: math.MaxInt, Changes: make([]impl.Change, 61)}, done("0 1 ?1 =2")} {
			w := worldOf(withTxns(fresh(), "1 0 ?1"), threePasts()...)
			w.Open[session] = impl.Past{Done: d, Steps: steps("1 find ?1: ok 0")}
			rightWorld(t, fmt.Sprint("a Done of ", session), w)
			w.Open[session].Steps = nil
			rightWorld(t, fmt.Sprint("a Done of ", session, " alone"), w)
		}
		for what, list := range badPasts() {
			for _, p := range list[:1] {
				w := worldOf(fresh())
				w.Open[session] = p
				worldIsRight(t, fmt.Sprint(what, ", open, of ", session), w, len(p.Steps) <= 100)
			}
		}
	}
}

func TestP14PastsOfAWorld(t *testing.T) {
	for what, list := range badPasts() {
		wrongWorld(t, what, worldOf(fresh(), list...))
		if len(list) == 1 {
			for place := range 4 {
				wrongWorld(t, fmt.Sprint(what, " at ", place), worldOf(fresh(), slices.Insert(threePasts(), place, list[0])...))
			}
		}
	}
	for _, n := range []int{0, 1, 2, 38, 39, 40, 41, 42, 100, impl.MaxList, impl.MaxList + 1} {
		worldIsRight(t, fmt.Sprint(n, " pasts"), worldOf(fresh(), pastsOf(manyDones(n))...), n <= 40)
	}
	for _, n := range []int{0, 99, 100, 101, 102, impl.MaxList + 1} {
		p := impl.Past{Done: done("0 1"), Steps: slices.Repeat(steps("2 inc *none: name"), n)}
		worldIsRight(t, fmt.Sprint(n, " Steps"), worldOf(fresh(), p), n <= 100)
	}
	for _, text := range []string{"0 2|0 1", "0 1|0 1", "5 9|2 3|0 10000", "0 1 ?1 =2|0 1 ?2 =1", "0 1 in out|0 2 in out", "9999 10000"} {
		rightWorld(t, text, worldOf(fresh(), pastsOf(dones(text))...))
	}
}

// Who has nothing open may have Steps, and the other way round; a Step may be of any session, and
// tell what no store tells.
func TestP14OpenPastsOfAnyStore(t *testing.T) {
	for what, w := range map[string]impl.World{
		"Steps of nobody": withSteps(worldOf(fresh()), 2, steps("2 insert 1=1: ok 1")), "no Steps of who reads": worldOf(withTxns(fresh(), "1 0 ?1 ?2 1=1")), "Steps of another session": withSteps(worldOf(withTxns(fresh(), "1 0")), 1, steps("3 insert 1=1: ok 1", "0 find *: ok 0")),
		"Steps of other names": withSteps(worldOf(withTxns(fresh(), "1 0")), 1, steps("1 find *none: ok 0")), "what no store tells": withSteps(worldOf(withTxns(fresh(), "1 0")), 1, []impl.Step{{Command: command("1 find *"), Reply: impl.Reply{N: -7, Docs: make([]impl.Value, 100)}}}),
		"each way": withSteps(withSteps(worldOf(withTxns(fresh(), "0 0", "2 0"), threePasts()...), 1, steps("0 count *: ok 9")), 3, steps("3 delete *: busy")),
	} {
		rightWorld(t, what, w)
	}
}

// stepsRight and worldRight are WorldOK in other words.
func stepsRight(list []impl.Step) bool {
	for _, step := range list {
		if k := step.Command.Kind; k < 4 || k > 8 || !impl.CommandOK(step.Command) || step.Reply.Code < 0 || step.Reply.Code > 19 || len(step.Reply.Docs) > 100 {
			return false
		}
	}
	return len(list) <= 100
}

func worldRight(w impl.World) bool {
	for _, p := range w.Open {
		if len(p.Steps) > 100 {
			return false
		}
	}
	for _, p := range w.Past {
		if !stepsRight(p.Steps) || !doneRight(p.Done) {
			return false
		}
	}
	return storeRight(w.Store) && len(w.Open) == 4 && len(w.Past) <= 40
}

// junkPast is one that is right more often than not.
func junkPast(r *rand.Rand) impl.Past {
	p := impl.Past{Done: (&certifyRun{r: r, ids: 20, reach: 9}).next().done()}
	if r.Intn(15) == 0 {
		spoilDone(r, &p.Done)
	}
	for range r.Intn(3) {
		step := impl.Step{Command: pick(r, oneOfEach()[3:8]), Reply: impl.Reply{N: r.Intn(3)}}
		switch r.Intn(30) {
		case 0:
			step.Command = pick(r, oneOfEach())
		case 1:
			step.Command.Session = pick(r, []int{-1, 0, 3, 4})
		case 2:
			step.Reply.Code = pick(r, []int{-1, 0, 19, 20})
		case 3:
			step.Reply.Docs = make([]impl.Value, pick(r, []int{99, 100, 101}))
		}
		p.Steps = append(p.Steps, step)
		if r.Intn(40) == 0 {
			p.Steps = slices.Repeat(p.Steps[:1], pick(r, []int{99, 100, 101}))
		}
	}
	return p
}

func TestP14ChangedWorlds(t *testing.T) {
	r := rand.New(rand.NewSource(1401))
	count := map[bool]int{}
	for range 1500 {
		w := impl.World{Store: fresh()}
		if r.Intn(2) == 0 {
			w.Store = junkStore(r)
		}
		for range pick(r, []int{3, 4, 4, 4, 4, 4, 4, 5}) {
			w.Open = append(w.Open, junkPast(r))
		}
		for range pick(r, []int{0, 1, 2, 3, 3, 3, 40, 41}) {
			w.Past = append(w.Past, junkPast(r))
			if len(w.Past) > 3 {
				w.Past[len(w.Past)-1] = w.Past[0]
			}
		}
		right := worldRight(w)
		count[right]++
		worldIsRight(t, shownWorld(w), w, right)
	}
	if count[true] < 200 || count[false] < 200 {
		t.Errorf("right and not: %v", count)
	}
}
