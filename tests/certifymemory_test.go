package tests

import (
	"fmt"
	"slices"
	"strings"
	"testing"

	"loop.example/g00380/impl"
)

// spareDones is a list whose lists have room behind their ends, and all that stands there.
type spareDones struct {
	list    []impl.Done
	next    []impl.Done
	reads   []impl.Read
	clauses []impl.Clause
	terms   []impl.Term
	changes []impl.Change
}

// newSpareDones has the lists of all of them lie in one store, one's right behind the other's.
func newSpareDones() *spareDones {
	s := &spareDones{}
	for i := range 12 {
		s.terms = append(s.terms, term(impl.TeEq, strings.Clone("id"), intOf(i)), term(impl.TeNe, strings.Clone("k"), textOf(strings.Clone("abc"))))
		s.changes = append(s.changes, changeOf(fmt.Sprintf("%c%d", "=+-"[i%3], i)))
	}
	for i := range 12 {
		s.clauses = append(s.clauses, impl.Clause{Terms: s.terms[2*i : 2*i+2]})
	}
	for i := range 12 {
		s.reads = append(s.reads, impl.Read{Coll: strings.Clone("docs"), Filter: impl.Filter{Any: s.clauses[i : i+1]}})
	}
	times := [][2]int{{0, 3}, {1, 5}, {4, 8}, {5, 9}}
	for i, at := range times {
		s.list = append(s.list, impl.Done{Snap: at[0], At: at[1], Reads: s.reads[i : i+1], Changes: s.changes[i+4 : i+5]})
	}
	s.list[1].In, s.list[2].Out = true, true
	// Their codes stand in TestP1CertificatesOfAllCodes.
	s.next = []impl.Done{
		{Snap: 2, At: 20, Reads: s.reads[9:11], Changes: s.changes[10:12], In: true, Out: true},
		{Snap: 2, At: 20, Reads: s.reads[4:6], Changes: s.changes[11:12]},
		{Snap: 0, At: 20, Reads: s.reads[9:10], Changes: s.changes[4:5]},
		{Snap: 0, At: 20, Reads: s.reads[4:5], Changes: s.changes[1:2]},
		{Snap: 0, At: 20, Reads: s.reads[6:7], Changes: s.changes[11:12]},
		{Snap: 0, At: 7, Reads: s.reads[:2], Changes: s.changes[:1]},
		{Snap: 0, At: 20, Reads: s.reads, Changes: append(s.changes[:11:11], s.changes[0])},
	}
	return s
}

// given is the list without the last one, which stands behind its end.
func (s *spareDones) given() []impl.Done { return s.list[:3] }

func sameClause(a, b impl.Clause) bool { return slices.Equal(a.Terms, b.Terms) }

func (s *spareDones) same(o *spareDones) bool {
	return sameDones(s.list, o.list) && sameDones(s.next, o.next) && slices.EqualFunc(s.reads, o.reads, sameRead) &&
		slices.EqualFunc(s.clauses, o.clauses, sameClause) && slices.Equal(s.terms, o.terms) && slices.Equal(s.changes, o.changes)
}

// made are all lists that the calls make of it.
func (s *spareDones) made() [][]impl.Done {
	var all [][]impl.Done
	for _, d := range s.next {
		list, _ := impl.Certify(s.given(), d)
		all = append(all, list)
	}
	for oldest := range 10 {
		list, _ := impl.CleanDone(s.given(), oldest)
		all = append(all, list)
	}
	return all
}

func TestP1CertificatesOfAllCodes(t *testing.T) {
	s := newSpareDones()
	for i, want := range []int{impl.OK, impl.OK, impl.ErrConflict, impl.ErrPivot, impl.ErrPivot, impl.ErrOrder, impl.ErrBad} {
		if list, code := impl.Certify(s.given(), s.next[i]); code != want {
			t.Errorf("Certify of %d: %s, %d, not %d", i, shownDones(list), code, want)
		}
	}
}

func TestP1DonesStayAsTheyAre(t *testing.T) {
	s, before := newSpareDones(), newSpareDones()
	if !s.same(before) {
		t.Fatal("the lists differ from the beginning")
	}
	s.made()
	impl.EdgesOf(s.given())
	for _, d := range append(slices.Clone(s.next), s.list...) {
		impl.DoneOK(d)
		impl.Hits(d.Reads, d.Changes)
		impl.Hits(d.Reads, s.changes[:2])
		impl.Hits(s.reads[:2], d.Changes)
	}
	for _, r := range s.reads {
		impl.ReadOK(r)
	}
	if !s.same(before) {
		t.Errorf("a call changed its argument: %s", shownDones(s.list))
	}
	full := manyDones(impl.MaxDone)
	impl.Certify(full, done("10 31 ?9"))
	impl.Certify(full[:29], done("10 31 ?9"))
	if !sameDones(full, manyDones(impl.MaxDone)) {
		t.Errorf("Certify changed what has no room: %s", shownDones(full))
	}
}

func ownedDones(list []impl.Done) []impl.Done {
	own := slices.Clone(list)
	for i, d := range own {
		own[i].Reads, own[i].Changes = slices.Clone(d.Reads), slices.Clone(d.Changes)
		for j, r := range own[i].Reads {
			clauses := slices.Clone(r.Filter.Any)
			for k, c := range clauses {
				clauses[k].Terms = slices.Clone(c.Terms)
			}
			own[i].Reads[j].Filter.Any = clauses
		}
	}
	return own
}

// wipedDones clears all that a list reaches, list by list: no other list of it may feel it.
func wipedDones(t *testing.T, list []impl.Done) {
	t.Helper()
	before := ownedDones(list)
	still := func(what string) {
		t.Helper()
		if !sameDones(list, before) {
			t.Fatalf("%s share memory with another list", what)
		}
	}
	for i, d := range list {
		for j, r := range d.Reads {
			for k, c := range r.Filter.Any {
				clear(c.Terms[:cap(c.Terms)])
				before[i].Reads[j].Filter.Any[k].Terms = make([]impl.Term, len(c.Terms))
				still("terms")
			}
			clear(r.Filter.Any[:cap(r.Filter.Any)])
			before[i].Reads[j].Filter.Any = make([]impl.Clause, len(r.Filter.Any))
			still("clauses")
		}
		clear(d.Reads[:cap(d.Reads)])
		before[i].Reads = make([]impl.Read, len(d.Reads))
		still("reads")
		clear(d.Changes[:cap(d.Changes)])
		before[i].Changes = make([]impl.Change, len(d.Changes))
		still("changes")
	}
	clear(list[:cap(list)])
}

func TestP1ListsOfDonesAreNew(t *testing.T) {
	s, before := newSpareDones(), newSpareDones()
	first, second, want := s.made(), s.made(), before.made()
	for i, list := range first {
		if !sameDones(list, second[i]) {
			t.Fatalf("%s, then %s", shownDones(list), shownDones(second[i]))
		}
		wipedDones(t, list)
		if !s.same(before) {
			t.Fatalf("the answer %d shares lists with its argument", i)
		}
		for j := i + 1; j < len(first); j++ {
			if !sameDones(first[j], second[j]) {
				t.Fatalf("the answers %d and %d share a list", i, j)
			}
		}
	}
	clear(s.list)
	clear(s.next)
	clear(s.reads)
	clear(s.clauses)
	clear(s.terms)
	clear(s.changes)
	for i := range want {
		if !sameDones(second[i], want[i]) {
			t.Errorf("the answer %d hangs on what became of its argument: %s, not %s", i, shownDones(second[i]), shownDones(want[i]))
		}
	}
}

func TestP1EdgesAreNew(t *testing.T) {
	list := manyDones(5)
	first, _ := impl.EdgesOf(list)
	second, _ := impl.EdgesOf(list)
	clear(first[:cap(first)])
	if again, _ := impl.EdgesOf(list); len(again) != 20 || !slices.Equal(again, second) {
		t.Errorf("EdgesOf: %v, then %v", second, again)
	}
}

func textsOfDones(list []impl.Done) []string {
	var all []string
	for _, d := range list {
		for _, r := range d.Reads {
			all = append(all, r.Coll)
			for _, c := range r.Filter.Any {
				for _, x := range c.Terms {
					all = append(all, x.Path, x.Value.T)
				}
			}
		}
		for _, c := range d.Changes {
			all = append(all, c.Write.Coll, c.Write.Doc.T, c.Before.T)
		}
	}
	return all
}

func TestP1DonesShareNoTexts(t *testing.T) {
	s := newSpareDones()
	given := textsOfDones(slices.Concat(s.list, s.next))
	for _, list := range s.made() {
		noOneShares(t, textsOfDones(list), given)
	}
}

// toldCertificates writes down all that the calls of chapter 10 answer to a value, and to its text.
func toldCertificates(v impl.Value) string {
	var s strings.Builder
	inside := raw(impl.VaDoc, "\x01a"+string(rawBytes(v))+"\x02id"+string(rawBytes(intOf(3))))
	reads := []impl.Read{
		{Coll: "docs", Filter: where(term(impl.TeEq, "a", v))},
		{Coll: v.T, Filter: everything()},
		{Coll: "docs", Filter: where(term(v.N, v.T, v), term(v.Kind, "id", v))},
	}
	changes := []impl.Change{
		{Write: impl.Write{Coll: "docs", Id: 3, Doc: inside}},
		{Write: gone(3), Before: inside, Was: true},
		{Write: impl.Write{Coll: v.T, Id: v.N, Doc: v}, Before: v, Was: v.N > 0},
		{Write: gone(v.Kind), Before: v},
	}
	for _, r := range reads {
		fmt.Fprintln(&s, impl.ReadOK(r))
		for _, c := range changes {
			hits, code := impl.Hits([]impl.Read{r, reads[0]}, []impl.Change{c})
			fmt.Fprintln(&s, hits, code)
			d := impl.Done{Snap: 2, At: 8, Reads: []impl.Read{r}, Changes: []impl.Change{c}}
			fmt.Fprintln(&s, impl.DoneOK(d), impl.DoneOK(impl.Done{Snap: v.Kind, At: v.N}))
			for _, list := range [][]impl.Done{nil, dones("0 3 ?3|1 5 =7"), {done("0 4 ?3"), d}} {
				for _, e := range []impl.Done{d, done("6 9 ?3 =3"), done("4 9 ?3"), {Snap: 3, At: v.N, Reads: d.Reads}} {
					got, code := impl.Certify(list, e)
					fmt.Fprintf(&s, "%q %d\n", fmt.Sprint(got), code)
				}
				got, code := impl.CleanDone(list, v.N)
				fmt.Fprintf(&s, "%q %d\n", fmt.Sprint(got), code)
				edges, code := impl.EdgesOf(list)
				fmt.Fprintln(&s, edges, code)
			}
		}
	}
	return s.String()
}
