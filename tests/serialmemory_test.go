package tests

import (
	"fmt"
	"slices"
	"strings"
	"testing"

	"loop.example/g00380/impl"
)

// sparePasts are pasts whose lists have room behind their ends, and all that stands there.
type sparePasts struct {
	store *spareStore
	names []string
	list  []impl.Past
	steps []impl.Step
	docs  []impl.Value
	order []int
}

func newSparePasts() *sparePasts {
	s := &sparePasts{store: newSpareStore(), order: []int{2, 0, 1, 2, 77, -1}}
	s.names = []string{strings.Clone("docs"), strings.Clone("more"), "more", "9"}
	for _, text := range []string{"3=7", "5=7", "5=8", "9=9"} {
		s.docs = append(s.docs, writeOf(text).Doc)
	}
	for i, c := range s.store.commands {
		if impl.CoInsert <= c.Kind && c.Kind <= impl.CoCount && impl.CommandOK(c) {
			s.steps = append(s.steps, impl.Step{Command: c, Reply: impl.Reply{N: 1, Docs: s.docs[i%3 : i%3+1]}})
		}
	}
	// The last of one session's commands, then the next one's inserts, for which there is room.
	each := len(s.steps) / impl.MaxSessions
	for i, d := range s.store.txn.dones.list[:3] {
		s.list = append(s.list, impl.Past{Done: d, Steps: s.steps[each*(i+1)-10 : each*(i+1)+3]})
	}
	s.list = append(s.list, impl.Past{Steps: s.steps[:1]})
	return s
}

// given is the list without the last one, which is not right and stands behind its end.
func (s *sparePasts) given() []impl.Past { return s.list[:3] }

func sameStep(a, b impl.Step) bool {
	return sameCommand(a.Command, b.Command) && sameReply(a.Reply, b.Reply)
}

func samePast(a, b impl.Past) bool {
	return sameDone(a.Done, b.Done) && slices.EqualFunc(a.Steps, b.Steps, sameStep)
}

func (s *sparePasts) same(o *sparePasts) bool {
	return s.store.same(o.store) && slices.Equal(s.names, o.names) && slices.EqualFunc(s.list, o.list, samePast) && slices.EqualFunc(s.steps, o.steps, sameStep) &&
		slices.Equal(s.docs, o.docs) && slices.Equal(s.order, o.order)
}

// made are all stores that Replay makes of it.
func (s *sparePasts) made() []did {
	var all []did
	for n := range 5 {
		x, _, code := impl.Replay(s.names[:2], s.given(), s.order[:n])
		all = append(all, did{s: x, code: code})
	}
	x, _, code := impl.Replay(s.names[:1], s.given(), s.order[1:3])
	return append(all, did{s: x, code: code})
}

func TestP1PastsStayAsTheyAre(t *testing.T) {
	s, before := newSparePasts(), newSparePasts()
	if !s.same(before) {
		t.Fatal("the pasts differ from the beginning")
	}
	docs := 0
	for _, d := range s.made() {
		if d.code != impl.OK || len(d.s.Colls) == 0 {
			t.Fatalf("Replay: %s, %d", shownStore(d.s), d.code)
		}
		docs += len(mustNow(t, d.s, "docs"))
	}
	if docs < 8 {
		t.Errorf("%d documents in all", docs)
	}
	impl.Replay(s.names, s.given(), s.order[:3])
	impl.Replay(s.names[:2], s.list, s.order[:3])
	impl.Replay(s.names[:2], s.given(), s.order)
	impl.SerialOrder(s.store.txn.dones.given())
	impl.SerialOrder(s.store.txn.dones.list)
	impl.SerialOrder(s.store.txn.dones.next)
	impl.SameDocs(s.store.s, s.store.s)
	impl.SameDocs(s.store.s, fresh())
	impl.SameReply(s.steps[0].Reply, s.steps[1].Reply)
	impl.SameReply(impl.Reply{Docs: s.docs[:3]}, impl.Reply{Docs: s.docs[:2]})
	if !s.same(before) {
		t.Errorf("a call changed its argument: %v", s.list)
	}
}

func TestP1AnswersOfReplayAreNew(t *testing.T) {
	s, before := newSparePasts(), newSparePasts()
	first, second, want := s.made(), s.made(), before.made()
	for i, d := range first {
		if !sameDid(d, second[i]) {
			t.Fatalf("the answer %d: %s, then %s", i, shownStore(d.s), shownStore(second[i].s))
		}
		wipedDid(t, d, second[i])
		if !s.same(before) {
			t.Fatalf("the answer %d shares lists with its argument", i)
		}
	}
	clear(s.names)
	clear(s.list)
	clear(s.steps)
	clear(s.docs)
	clear(s.order)
	clear(s.store.commands)
	for i, d := range second {
		if !sameDid(d, want[i]) {
			t.Errorf("the answer %d hangs on what became of another one, or of its argument: %s, not %s", i, shownStore(d.s), shownStore(want[i].s))
		}
	}
}

func TestP1SerialOrdersAreNew(t *testing.T) {
	list := chainOf(5)
	first, _ := impl.SerialOrder(list)
	second, _ := impl.SerialOrder(list)
	clear(first[:cap(first)])
	again, code := impl.SerialOrder(list)
	if !slices.Equal(again, []int{4, 3, 2, 1, 0}) || !slices.Equal(second, again) || code != impl.OK {
		t.Errorf("SerialOrder: %v, then %v, %d", second, again, code)
	}
	if !sameDones(list, chainOf(5)) {
		t.Errorf("SerialOrder changed its argument: %s", shownDones(list))
	}
}

func TestP1ReplaysShareNoTexts(t *testing.T) {
	s := newSparePasts()
	given := slices.Clone(s.names)
	for _, step := range s.steps {
		given = append(given, textsOfCommand(step.Command)...)
	}
	for _, d := range s.made() {
		noOneShares(t, textsOfStore(d.s), given)
	}
}

// toldSerial writes down all that the calls of chapter 13 answer to a value, and to its text.
func toldSerial(v impl.Value) string {
	var s strings.Builder
	inside := raw(impl.VaDoc, "\x01a"+string(rawBytes(v))+"\x02id"+string(rawBytes(intOf(3))))
	f := where(term(impl.TeEq, "a", v))
	change := impl.Change{Write: impl.Write{Coll: "docs", Id: 3, Doc: inside}}
	read := impl.Read{Coll: "docs", Filter: f}
	for _, list := range [][]impl.Done{
		{{At: 1, Changes: []impl.Change{change}}, {At: 2, Reads: []impl.Read{read}}}, {{At: 1, Changes: []impl.Change{change}}, {Snap: v.Kind, At: v.N}, {At: 9, Reads: []impl.Read{read}}},
		{{At: 1, Reads: []impl.Read{{Coll: v.T, Filter: f}}}}, {{At: 1, Changes: []impl.Change{change}, Reads: []impl.Read{readOf("?4")}}, {At: 2, Reads: []impl.Read{read}, Changes: changesOf("=4")}},
	} {
		order, code := impl.SerialOrder(list)
		fmt.Fprintln(&s, order, code)
	}
	q := impl.Query{Filter: f, Skip: v.Kind, Hint: v.T}
	for _, r := range []impl.Reply{{N: 1}, {N: 1, Docs: []impl.Value{inside}}, {Code: v.N, Docs: []impl.Value{v}}} {
		list := []impl.Past{
			{Done: done("0 1"), Steps: []impl.Step{{Command: impl.Command{Kind: impl.CoInsert, Coll: "docs", Doc: inside}, Reply: impl.Reply{N: 1}}}},
			{Done: done("0 2"), Steps: []impl.Step{{Command: impl.Command{Kind: impl.CoFind, Session: 2, Coll: "docs", Query: q}, Reply: r}}},
			{Done: done("1 3"), Steps: []impl.Step{{Command: impl.Command{Kind: impl.CoUpdate, Coll: "docs", Query: q, Updates: []impl.Update{update(impl.UpSet, "b", v)}}, Reply: impl.Reply{N: 1}}}},
		}
		for _, names := range [][]string{{"docs"}, {v.T}, {"docs", v.T}} {
			for _, order := range [][]int{{0, 1, 2}, {1, 0}, {v.Kind, v.N}} {
				x, same, code := impl.Replay(names, list, order)
				y, _, _ := impl.Replay(names, list[:2], []int{0})
				also, c := impl.SameDocs(x, y)
				fmt.Fprintf(&s, "%q %v %d %v %d\n", fmt.Sprint(x), same, code, also, c)
			}
		}
		fmt.Fprintln(&s, impl.SameReply(r, impl.Reply{N: v.N, Docs: []impl.Value{v}}), impl.SameReply(r, r))
	}
	return s.String()
}
