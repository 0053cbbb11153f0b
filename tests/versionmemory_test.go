package tests

import (
	"fmt"
	"slices"
	"strings"
	"testing"

	"loop.example/g00380/impl"
)

// spareColl is a collection whose lists have room behind their ends, and all that stands there.
type spareColl struct {
	c        impl.Coll
	versions []impl.Version
	chains   []impl.Chain
	defs     []impl.Def
	parts    []impl.Part
	writes   []impl.Write
}

// newSpareColl has the chains' versions lie in one store, one chain's right behind the other's.
func newSpareColl() *spareColl {
	s := &spareColl{parts: []impl.Part{{Path: strings.Clone("k")}, {Path: strings.Clone("a.b"), Desc: true}, {Path: "9"}}}
	s.chains = coll("1 2=1 6-|5 1- 3=2 4=3|9 3=4|12 1- 5-|77 9=9 1-").Chains
	for _, x := range s.chains {
		s.versions = append(s.versions, x.Versions...)
	}
	from := 0
	for i, x := range s.chains {
		to := from + len(x.Versions)
		s.chains[i].Versions, from = s.versions[from:to], to
	}
	s.defs = []impl.Def{{Name: strings.Clone("one"), Parts: s.parts[:1]}, {Name: strings.Clone("two"), Parts: s.parts[:2]}, {Name: "9"}, {}}
	s.c = impl.Coll{Name: strings.Clone("docs"), Chains: s.chains[:4], Defs: s.defs[:2]}
	s.writes = []impl.Write{put(1, 7), put(5, 7), put(9, 7), gone(12), put(0, 7), put(3, 7), gone(10), put(19, 7)}
	return s
}

func (s *spareColl) same(o *spareColl) bool {
	return sameColl(s.c, o.c) && slices.Equal(s.versions, o.versions) && slices.EqualFunc(s.chains, o.chains, sameChain) &&
		slices.EqualFunc(s.defs, o.defs, sameDef) && slices.Equal(s.parts, o.parts) && slices.Equal(s.writes, o.writes)
}

func textsIn(c impl.Coll) []string {
	list := []string{c.Name}
	for _, x := range c.Chains {
		for _, v := range x.Versions {
			list = append(list, v.Doc.T)
		}
	}
	for _, d := range c.Defs {
		list = append(list, d.Name)
		for _, p := range d.Parts {
			list = append(list, p.Path)
		}
	}
	return list
}

// texts are all that were handed in.
func (s *spareColl) texts() []string {
	list := textsIn(impl.Coll{Name: s.c.Name, Chains: s.chains, Defs: s.defs})
	for _, w := range s.writes {
		list = append(list, w.Coll, w.Doc.T)
	}
	return list
}

// changed are the collections that the calls make of it: the writes at times that are too early, and
// at times that are not, and vacuums.
func (s *spareColl) changed() []impl.Coll {
	var list []impl.Coll
	for _, w := range s.writes {
		for _, at := range []int{1, 4, 9} {
			c, _ := impl.Install(s.c, at, w)
			list = append(list, c)
		}
	}
	for oldest := range 8 {
		c, _ := impl.Vacuum(s.c, oldest)
		list = append(list, c)
	}
	return list
}

func (s *spareColl) seen() [][]impl.Value {
	var list [][]impl.Value
	for snap := range 8 {
		docs, _ := impl.SeenAt(s.c, snap)
		list = append(list, docs)
	}
	return list
}

func (s *spareColl) last() []impl.Version {
	var list []impl.Version
	for id := range impl.TopId + 1 {
		v, _ := impl.LastAt(s.c, id)
		list = append(list, v)
	}
	return list
}

func TestP1CollsStayAsTheyAre(t *testing.T) {
	s, before := newSpareColl(), newSpareColl()
	if !impl.CollOK(s.c) || !s.same(before) {
		t.Fatalf("the collection is not right: %s", shownColl(s.c))
	}
	s.changed()
	s.seen()
	s.last()
	impl.VersionsOf(s.c)
	// One that is wrong, and one without room.
	wrong := impl.Coll{Name: s.c.Name, Chains: s.chains, Defs: s.defs}
	impl.CollOK(wrong)
	impl.Install(wrong, 9, s.writes[0])
	impl.Vacuum(wrong, 9)
	impl.Install(s.c, 0, s.writes[0])
	if !s.same(before) {
		t.Errorf("a call changed its argument: %s", shownColl(s.c))
	}
	full := allChains(impl.MaxVersions)
	impl.Install(full, 100, put(3, 1))
	impl.Install(full, 10, put(3, 1))
	if !sameColl(full, allChains(impl.MaxVersions)) {
		t.Errorf("Install changed what has no room: %s", shownColl(full))
	}
}

func ownedColl(c impl.Coll) impl.Coll {
	own := impl.Coll{Name: c.Name}
	for _, x := range c.Chains {
		own.Chains = append(own.Chains, impl.Chain{Id: x.Id, Versions: slices.Clone(x.Versions)})
	}
	for _, d := range c.Defs {
		own.Defs = append(own.Defs, impl.Def{Name: d.Name, Parts: slices.Clone(d.Parts)})
	}
	return own
}

// wipedColl clears all that a collection reaches, list by list: no other list of it may feel it.
func wipedColl(t *testing.T, c impl.Coll) {
	t.Helper()
	before := ownedColl(c)
	for i, x := range c.Chains {
		clear(x.Versions[:cap(x.Versions)])
		before.Chains[i].Versions = make([]impl.Version, len(x.Versions))
		if !sameColl(c, before) {
			t.Errorf("the versions of %d share memory with another list", x.Id)
		}
	}
	for i, d := range c.Defs {
		clear(d.Parts[:cap(d.Parts)])
		before.Defs[i].Parts = make([]impl.Part, len(d.Parts))
		if !sameColl(c, before) {
			t.Errorf("the parts of %s share memory with another list", d.Name)
		}
	}
	clear(c.Chains[:cap(c.Chains)])
	clear(c.Defs[:cap(c.Defs)])
}

func TestP1ChangedCollsAreNew(t *testing.T) {
	s, before := newSpareColl(), newSpareColl()
	first, second, want := s.changed(), s.changed(), before.changed()
	for i, c := range first {
		if !sameColl(c, second[i]) || isZeroColl(c) {
			t.Fatalf("%s, then %s", shownColl(c), shownColl(second[i]))
		}
		wipedColl(t, c)
		if !s.same(before) {
			t.Fatalf("the answer %d shares lists with its argument", i)
		}
		for j := i + 1; j < len(first); j++ {
			if !sameColl(first[j], second[j]) {
				t.Fatalf("the answers %d and %d share a list", i, j)
			}
		}
	}
	clear(s.versions)
	clear(s.chains)
	clear(s.defs)
	clear(s.parts)
	for i := range want {
		if !sameColl(second[i], want[i]) {
			t.Errorf("the answer %d hangs on what became of its argument: %s, not %s", i, shownColl(second[i]), shownColl(want[i]))
		}
	}
}

func TestP1SeenDocumentsAreNew(t *testing.T) {
	s, before := newSpareColl(), newSpareColl()
	first, second := s.seen(), s.seen()
	for _, list := range first {
		clear(list[:cap(list)])
	}
	if !s.same(before) {
		t.Error("SeenAt's answer shares a list with its argument")
	}
	clear(s.versions)
	for i, want := range before.seen() {
		if !slices.Equal(second[i], want) || len(want) == 0 && i > 1 {
			t.Errorf("SeenAt %d: %v, not %v", i, second[i], want)
		}
	}
}

func TestP1CollsShareNoTexts(t *testing.T) {
	s := newSpareColl()
	given := s.texts()
	for _, c := range s.changed() {
		noOneShares(t, textsIn(c), given)
	}
	for _, docs := range s.seen() {
		var made []string
		for _, doc := range docs {
			made = append(made, doc.T)
		}
		noOneShares(t, made, given)
	}
	for _, v := range s.last() {
		noOneShares(t, []string{v.Doc.T}, given)
	}
	name := strings.Clone("docs")
	c, _ := impl.NewColl(name)
	noOneShares(t, []string{c.Name}, []string{name})
}

// toldVersions writes down all that the calls of chapter 9 answer to a value, and to its text.
func toldVersions(v impl.Value) string {
	var s strings.Builder
	tell := func(c impl.Coll, code int) { fmt.Fprintf(&s, "%q %d\n", fmt.Sprint(c), code) }
	tell(impl.NewColl(v.T))
	inside := raw(impl.VaDoc, "\x01a"+string(rawBytes(v))+"\x02id"+string(rawBytes(intOf(3))))
	for _, x := range []impl.Chain{
		{Id: 3, Versions: []impl.Version{{At: 2, Doc: inside}, {At: 4, Gone: true}}},
		{Id: 3, Versions: []impl.Version{{At: 2, Gone: true, Doc: v}, {At: 4, Doc: inside}}},
		{Id: v.N, Versions: []impl.Version{{At: 2, Doc: v}}},
		{Id: v.Kind, Versions: []impl.Version{{At: v.N, Gone: true}}},
	} {
		for _, c := range []impl.Coll{{Name: "docs", Chains: []impl.Chain{x}}, {Name: v.T, Chains: []impl.Chain{x}}, {Name: "docs", Chains: []impl.Chain{x}, Defs: []impl.Def{def("one", "a"), def("two", v.T)}}} {
			n, code := impl.VersionsOf(c)
			fmt.Fprintln(&s, impl.CollOK(c), n, code)
			for _, time := range []int{v.N, 1, 2, 4, 9} {
				docs, code := impl.SeenAt(c, time)
				fmt.Fprintf(&s, "%q %d\n", fmt.Sprint(docs), code)
				last, code := impl.LastAt(c, time)
				fmt.Fprintf(&s, "%q %d\n", fmt.Sprint(last), code)
				tell(impl.Vacuum(c, time))
				for _, w := range []impl.Write{{Coll: "docs", Id: 3, Doc: inside}, {Coll: v.T, Id: v.N, Doc: v}, {Coll: "docs", Id: v.N, Gone: true}, {Coll: "docs", Id: 1, Gone: true, Doc: v}} {
					tell(impl.Install(c, time, w))
				}
			}
		}
	}
	return s.String()
}
