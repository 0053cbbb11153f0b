package tests

import (
	"cmp"
	"fmt"
	"reflect"
	"runtime"
	"slices"
	"strings"
	"sync"
	"testing"
	"time"
	"unsafe"

	"loop.example/g00380/impl"
)

// spareWorld is a world whose lists have room behind their ends, and all that stands there.
type spareWorld struct {
	pasts *sparePasts
	open  []impl.Past
	w     impl.World
}

func newSpareWorld() *spareWorld {
	s := &spareWorld{pasts: newSparePasts()}
	each := len(s.pasts.steps) / impl.MaxSessions
	for session := range impl.MaxSessions {
		s.open = append(s.open, impl.Past{Done: s.pasts.list[session%3].Done, Steps: s.pasts.steps[each*session : each*session+3]})
	}
	s.open = append(s.open, impl.Past{Steps: s.pasts.steps[:1]})
	s.w = impl.World{Store: s.pasts.store.s, Open: s.open[:4], Past: s.pasts.given()}
	return s
}

func (s *spareWorld) same(o *spareWorld) bool {
	return s.pasts.same(o.pasts) && sameWorld(s.w, o.w) && slices.EqualFunc(s.open, o.open, samePast)
}

// worlds are those that there are commands for, as stores has them.
func (s *spareWorld) worlds() []impl.World {
	var list []impl.World
	for _, x := range s.pasts.store.stores() {
		w := s.w
		w.Store = x
		list = append(list, w)
	}
	return list
}

// list are the commands of a run, and behind them one more, which is not right.
func (s *spareWorld) list() []impl.Command {
	var list []impl.Command
	for _, c := range s.pasts.store.commands {
		if impl.CommandOK(c) {
			list = append(list, c)
		}
	}
	return append(list[:impl.MaxCommands:impl.MaxCommands], impl.Command{})
}

// A wentOn is what became of a world, and what was told.
type wentOn struct {
	w       impl.World
	replies []impl.Reply
	code    int
}

func wentOnBy(w impl.World, r impl.Reply, code int) wentOn { return wentOn{w, []impl.Reply{r}, code} }

func ranTo(w impl.World, replies []impl.Reply, code int) wentOn { return wentOn{w, replies, code} }

func (s *spareWorld) made() []wentOn {
	var all []wentOn
	for _, w := range s.worlds() {
		for _, c := range s.pasts.store.commands {
			all = append(all, wentOnBy(impl.WorldDo(w, c)))
		}
	}
	for _, n := range []int{0, 1, 40, impl.MaxCommands} {
		all = append(all, ranTo(impl.WorldRun(s.list()[:n])))
	}
	return all
}

func sameWent(a, b wentOn) bool {
	return sameWorld(a.w, b.w) && slices.EqualFunc(a.w.Open, b.w.Open, samePast) && slices.EqualFunc(a.replies, b.replies, sameReply) && a.code == b.code
}

func TestP1WorldsStayAsTheyAre(t *testing.T) {
	s, before := newSpareWorld(), newSpareWorld()
	for _, w := range s.worlds() {
		if !impl.WorldOK(w) || !s.same(before) {
			t.Fatalf("the world is not right: %s", shownWorld(w))
		}
	}
	counts := map[string]int{}
	for _, went := range s.made() {
		counts[fmt.Sprint("code ", went.code)]++
		for _, r := range went.replies {
			counts[impl.CodeWord(r.Code)]++
		}
		for _, p := range went.w.Open {
			if len(p.Steps) > 3 {
				counts["joined"]++
			}
		}
		if len(went.w.Past) > 3 {
			counts["passed"]++
		}
	}
	saw(t, counts, map[string]int{"code 0": 200, "code 1": 12, "ok": 100, "state": 2, "twice": 2, "range": 2, "name": 2, "busy": 2, "pivot": 1, "conflict": 1, "joined": 20, "passed": 20})
	impl.SerialHolds(s.w)
	wrong := impl.World{Store: s.w.Store, Open: s.open, Past: s.pasts.list}
	impl.WorldOK(wrong)
	impl.SerialHolds(wrong)
	impl.WorldRun(s.pasts.store.commands)
	list := s.list()
	impl.WorldRun(list)
	impl.WorldRun(list[:impl.MaxCommands])
	for _, c := range s.pasts.store.commands {
		impl.WorldDo(wrong, c)
	}
	if !s.same(before) {
		t.Errorf("a call changed its argument: %s", shownWorld(s.w))
	}
	if !slices.EqualFunc(list, before.list(), sameCommand) {
		t.Error("WorldRun changed its argument")
	}
}

// A span is where a list, with its room, or a text lies.
type span struct {
	at, end uintptr
	given   bool
}

// laid are the spans of all that x reaches.
func laid(x any, given bool) []span {
	var all []span
	add := func(at, size uintptr) {
		if size > 0 {
			all = append(all, span{at, at + size, given})
		}
	}
	var walk func(v reflect.Value)
	walk = func(v reflect.Value) {
		switch v.Kind() {
		case reflect.Struct:
			for i := range v.NumField() {
				walk(v.Field(i))
			}
		case reflect.Slice:
			add(v.Pointer(), uintptr(v.Cap())*v.Type().Elem().Size())
			for i := range v.Len() {
				walk(v.Index(i))
			}
		case reflect.String:
			text := v.String()
			add(uintptr(unsafe.Pointer(unsafe.StringData(text))), uintptr(len(text)))
		}
	}
	walk(reflect.ValueOf(x))
	return all
}

// isNew holds what was made to memory of its own, of which no two lists or texts share any.
func isNew(t *testing.T, what string, made any, given ...any) {
	t.Helper()
	all := laid(made, false)
	for _, x := range given {
		all = append(all, laid(x, true)...)
	}
	slices.SortFunc(all, func(a, b span) int { return cmp.Compare(a.at, b.at) })
	var mine, theirs uintptr
	for _, s := range all {
		if s.at < mine || !s.given && s.at < theirs {
			t.Fatalf("%s shares memory", what)
		}
		if s.given {
			theirs = max(theirs, s.end)
		} else {
			mine = max(mine, s.end)
		}
	}
}

func TestP1AnswersOfWorldsAreNew(t *testing.T) {
	s, before := newSpareWorld(), newSpareWorld()
	first, second, want := s.made(), s.made(), before.made()
	for i, went := range first {
		if !sameWent(went, second[i]) {
			t.Fatalf("the answer %d: %s, then %s", i, shownWorld(went.w), shownWorld(second[i].w))
		}
		isNew(t, fmt.Sprint("the answer ", i), []wentOn{went, second[i]}, s.worlds(), s.open, s.pasts.list, s.pasts.steps, s.pasts.store.commands)
	}
	for i := range want {
		if !sameWent(second[i], want[i]) {
			t.Errorf("the answer %d hangs on another one: %s, not %s", i, shownWorld(second[i].w), shownWorld(want[i].w))
		}
	}
	isNew(t, "a new world", []impl.World{impl.NewWorld(), impl.NewWorld()})
}

// What is told of open Steps, of aborts and of what is past is new in each answer of a long run, too.
func TestP1AnswersOfLongTalksAreNew(t *testing.T) {
	w := impl.NewWorld()
	for _, line := range []string{
		"0 insert 1=1", "1 begin", "1 find *", "1 inc *", "2 begin", "2 find *", "2 insert more.3=3", "1 find *", "1 commit", "2 find *more", "2 inc *more", "2 inc *more", "2 insert 1=1", "2 commit", "0 find *",
		"3 begin", "3 delete *", "3 find *", "3 abort", "0 index docs.one k", "0 find >0", "3 begin", "3 insert 5=5", "2 find *", "3 inc ?5", "3 commit", "0 delete *", "0 find *",
	} {
		c := command(line)
		x, r, code := impl.WorldDo(w, c)
		if code != impl.OK {
			t.Fatalf("%s: %d", line, code)
		}
		isNew(t, line, wentOn{x, []impl.Reply{r}, code}, w, c)
		w = x
	}
	if len(w.Past) != 9 {
		t.Errorf("%d pasts: %s", len(w.Past), shownWorld(w))
	}
}

// A Step shares nothing with its command, nor what that one has no use for.
func TestP1StepsOfFullCommandsAreNew(t *testing.T) {
	open := worldTalk(t, worldOf(fresh()), "1 begin: ok 0")
	for kind := impl.CoInsert; kind <= impl.CoCount; kind++ {
		c := fullCommand(kind)
		for _, w := range []impl.World{open, worldOf(fresh())} {
			for _, next := range []impl.Command{c, c, command("1 commit"), c} {
				x, r, code := impl.WorldDo(w, next)
				isNew(t, fmt.Sprint("the Kind ", kind, ", then ", next.Kind), wentOn{x, []impl.Reply{r}, code}, w, c)
				w = x
			}
			if len(w.Past) == 0 {
				t.Errorf("the Kind %d: %s", kind, shownWorld(w))
			}
		}
		list := []impl.Command{c, command("1 begin"), c, c, command("1 commit"), c}
		isNew(t, fmt.Sprint("a run of the Kind ", kind), ranTo(impl.WorldRun(list)), list)
	}
}

// Whoever calls beside others has the same answers, and nobody is left at work behind them.
func TestP1WorldsSideBySide(t *testing.T) {
	s := newSpareWorld()
	want := s.made()
	before := runtime.NumGoroutine()
	var group sync.WaitGroup
	for range 8 {
		group.Go(func() {
			for i, went := range s.made() {
				if !sameWent(went, want[i]) {
					t.Errorf("the answer %d, beside others: %s, not %s", i, shownWorld(went.w), shownWorld(want[i].w))
				}
			}
		})
	}
	group.Wait()
	full := worldOf(fresh(), pastsOf(manyDones(impl.MaxPast))...)
	for range 200 {
		notDone(t, "full", full, command("0 count *"), impl.ErrMany)
		runIsBy(t, "full", commands(lines(3, "0 abort")...), 3)
		impl.SerialHolds(full)
	}
	// Who has said the last thing may need a moment to be gone.
	for deadline := time.Now().Add(10 * time.Second); runtime.NumGoroutine() > before && time.Now().Before(deadline); {
		time.Sleep(time.Millisecond)
	}
	if n := runtime.NumGoroutine(); n > before {
		t.Errorf("%d goroutines, ahead of the calls %d", n, before)
	}
}

// toldWorlds writes down all that the calls of chapter 14 answer to a value, and to its text.
func toldWorlds(v impl.Value) string {
	var s strings.Builder
	inside := raw(impl.VaDoc, "\x01a"+string(rawBytes(v))+"\x02id"+string(rawBytes(intOf(3))))
	q := impl.Query{Filter: where(term(impl.TeEq, "a", v)), Hint: v.T}
	list := []impl.Command{
		{Kind: impl.CoInsert, Coll: "docs", Doc: inside}, {Kind: impl.CoBegin, Session: 1}, {Kind: impl.CoFind, Session: 1, Coll: "docs", Query: q},
		{Kind: impl.CoUpdate, Coll: "docs", Query: q, Updates: []impl.Update{update(impl.UpSet, "b", v)}}, {Kind: impl.CoFind, Session: v.Kind, Coll: v.T, Query: q}, {Kind: impl.CoCommit, Session: 1},
	}
	tell := func(w impl.World, more ...any) {
		held, code := impl.SerialHolds(w)
		fmt.Fprintf(&s, "%q %q %v %v %d\n", fmt.Sprint(w), fmt.Sprint(more...), impl.WorldOK(w), held, code)
	}
	w := impl.NewWorld()
	for i, c := range list {
		if x, r, code := impl.WorldDo(w, c); code == impl.OK {
			w = x
			tell(w, r, code)
		} else {
			tell(x, r, code)
		}
		x, replies, code := impl.WorldRun(list[:i+1])
		tell(x, replies, code)
	}
	step := impl.Step{Command: list[2], Reply: impl.Reply{Code: v.Kind, N: v.N, Docs: []impl.Value{v}}}
	x := withSteps(w, 2, []impl.Step{step})
	tell(x)
	x.Past = append(slices.Clone(w.Past), impl.Past{Done: impl.Done{At: v.N}, Steps: []impl.Step{step}})
	tell(x)
	return s.String()
}
