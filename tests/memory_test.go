package tests

import (
	"fmt"
	"math/rand"
	"slices"
	"strings"
	"testing"
	"unsafe"

	"loop.example/g00380/impl"
)

// Behind a slice's end stands memory that is the caller's too: these look at all of it.

func TestP1ListOfLeavesItsItems(t *testing.T) {
	store := []impl.Value{textOf("b"), textOf("a"), intOf(7), intOf(8)}
	before := slices.Clone(store)
	v, code := impl.ListOf(store[:2])
	if code != impl.OK || !slices.Equal(store, before) {
		t.Errorf("ListOf: %d, %v", code, store)
	}
	store[0] = intOf(9)
	if again := mustList(t, before[:2]...); v != again {
		t.Errorf("ListOf's answer hangs on its argument: %v", v)
	}
}

func TestP1DocOfLeavesItsFields(t *testing.T) {
	store := []impl.Field{field("b", intOf(1)), field("a", intOf(2)), field("c", intOf(3)), field("0", intOf(4))}
	before := slices.Clone(store)
	v, code := impl.DocOf(store[:2])
	if code != impl.OK || !slices.Equal(store, before) {
		t.Errorf("DocOf: %d, %v", code, store)
	}
	store[0] = field("x", intOf(9))
	if again := mustDoc(t, before[:2]...); v != again {
		t.Errorf("DocOf's answer hangs on its argument: %v", v)
	}
}

func TestP1DecodeValueLeavesItsBytes(t *testing.T) {
	want := mustList(t, textOf("abc"), mustDoc(t, field("a", textOf("x"))))
	store := append(rawBytes(want), 1, 2, 3)
	before := slices.Clone(store)
	v, code := impl.DecodeValue(store[:len(store)-3])
	if code != impl.OK || !slices.Equal(store, before) {
		t.Errorf("DecodeValue: %d, %q", code, store)
	}
	clear(store)
	if v != want {
		t.Errorf("DecodeValue's answer hangs on its argument: %v", v)
	}
}

func TestP1AnswersAreNew(t *testing.T) {
	list := mustList(t, intOf(1), textOf("a"))
	doc := mustDoc(t, field("a", list), field("b", list))
	b, _ := impl.EncodeValue(doc)
	items, _ := impl.ItemsOf(list)
	fields, _ := impl.FieldsOf(doc)
	clear(b[:cap(b)])
	clear(items[:cap(items)])
	clear(fields[:cap(fields)])
	again, _ := impl.EncodeValue(doc)
	moreItems, _ := impl.ItemsOf(list)
	moreFields, _ := impl.FieldsOf(doc)
	if string(again) != string(rawBytes(doc)) || mustList(t, moreItems...) != list || mustDoc(t, moreFields...) != doc {
		t.Error("an answer hangs on what became of the one ahead of it")
	}
}

// within asks whether a text's bytes lie among those of another.
func within(part, whole string) bool {
	if part == "" || whole == "" {
		return false
	}
	p, w := uintptr(unsafe.Pointer(unsafe.StringData(part))), uintptr(unsafe.Pointer(unsafe.StringData(whole)))
	return w <= p && p < w+uintptr(len(whole))
}

// noOneShares holds texts that were made to what was given, and to one another.
func noOneShares(t *testing.T, made, given []string) {
	t.Helper()
	for i, s := range made {
		for _, other := range append(slices.Clone(given), made[:i]...) {
			if within(s, other) || within(other, s) {
				t.Errorf("%q shares the text %q", s, other)
			}
		}
	}
}

func TestP1AnswersShareNoTexts(t *testing.T) {
	list := mustList(t, textOf("abc"), mustList(t, textOf("abc")))
	items, _ := impl.ItemsOf(list)
	for _, item := range items {
		if within(item.T, list.T) {
			t.Errorf("ItemsOf: %q is a piece of its argument", item.T)
		}
	}
	doc := mustDoc(t, field("name", list), field("other", textOf("abc")))
	fields, _ := impl.FieldsOf(doc)
	for _, f := range fields {
		if within(f.Name, doc.T) || within(f.Value.T, doc.T) {
			t.Errorf("FieldsOf: %q is a piece of its argument", f.Name)
		}
	}
}

func TestP1PathsShareNoTexts(t *testing.T) {
	doc := mustDoc(t, field("a", mustList(t, textOf("abc"), mustDoc(t, field("b", textOf("abc"))))), field("c", textOf("abc")))
	for _, path := range []string{"a", "a.b", "c"} {
		list, code := impl.GetPath(doc, path)
		first, c := impl.FirstPath(doc, path)
		if code != impl.OK || c != impl.OK || len(list) == 0 {
			t.Errorf("%s: %v, %d, %d", path, list, code, c)
		}
		for i, v := range append(list, first) {
			if within(v.T, doc.T) || i > 0 && within(v.T, list[0].T) {
				t.Errorf("%s: %q is a piece of another text", path, v.T)
			}
		}
	}
}

func TestP1UpdatesShareNoTexts(t *testing.T) {
	doc := mustDoc(t, field("a", mustList(t, textOf("abc"))), field("c", textOf("abc")))
	for _, path := range []string{"a", "c", "d", "e.f"} {
		for _, op := range allOps {
			u := update(op, path, textOf(strings.Clone("abc")))
			if op == impl.UpUnset || op == impl.UpInc {
				u.Value = valueFor(op)
			}
			v, code := impl.ApplyUpdate(doc, u)
			w, c := impl.ApplyAll(doc, []impl.Update{u})
			if v != w || code != c || within(v.T, doc.T) || within(w.T, doc.T) || within(v.T, u.Value.T) || within(w.T, u.Value.T) {
				t.Errorf("operation %d on %s: %v, %v shares the argument's text", op, path, v, w)
			}
			if s, _ := impl.UpdateText(u); within(s, u.Path) || within(s, u.Value.T) {
				t.Errorf("UpdateText: %q shares the argument's text", s)
			}
		}
	}
}

func TestP1ApplyAllLeavesItsList(t *testing.T) {
	doc := mustDoc(t, field("a", intOf(1)))
	store := []impl.Update{update(impl.UpInc, "a", intOf(1)), update(impl.UpPush, "l", textOf("x")), update(impl.UpSet, "b", intOf(2)), {Op: 9, Path: "z"}}
	before := slices.Clone(store)
	v, code := impl.ApplyAll(doc, store[:2])
	want := mustDoc(t, field("a", intOf(2)), field("l", mustList(t, textOf("x"))))
	if v != want || code != impl.OK || !slices.Equal(store, before) {
		t.Errorf("ApplyAll: %v, %d, %v", v, code, store)
	}
}

// spareFilter is a filter whose lists have room behind their ends, and all that stands there.
func spareFilter(t *testing.T) (impl.Filter, [][]impl.Term, []impl.Clause) {
	x, y, z := term(impl.TeEq, "b", textOf("abc")), term(impl.TeIn, "a", mustList(t, textOf("abc"))), term(99, "", boolOf(7))
	stores := [][]impl.Term{{x, y, x, z}, {y, y, z, z}, {x, z}}
	clauses := []impl.Clause{{Terms: stores[0][:3]}, {Terms: stores[1][:2]}, {Terms: stores[2][:1]}, {Terms: stores[2]}}
	return impl.Filter{Any: clauses[:3]}, stores, clauses
}

func TestP1FiltersStayAsTheyAre(t *testing.T) {
	f, stores, clauses := spareFilter(t)
	_, before, beforeClauses := spareFilter(t)
	for _, doc := range []impl.Value{mustDoc(t), mustDoc(t, field("b", textOf("abc"))), {}} {
		impl.FilterOK(f)
		impl.Matches(f, doc)
		impl.NormalFilter(f)
		impl.FilterText(f)
		impl.NormalFilter(impl.Filter{Any: clauses})
		impl.Matches(impl.Filter{Any: clauses}, doc)
	}
	for i, store := range stores {
		if !slices.Equal(store, before[i]) {
			t.Errorf("the terms %v became %v", before[i], store)
		}
	}
	if !sameFilter(impl.Filter{Any: clauses}, impl.Filter{Any: beforeClauses}) {
		t.Errorf("the clauses %v became %v", beforeClauses, clauses)
	}
}

func TestP1NormalFiltersAreNew(t *testing.T) {
	f, stores, clauses := spareFilter(t)
	first, code := impl.NormalFilter(f)
	second, c := impl.NormalFilter(f)
	if code != impl.OK || c != impl.OK || !sameFilter(first, second) {
		t.Fatalf("NormalFilter: %v, %d, then %v, %d", first, code, second, c)
	}
	// All that one answer can reach is wiped list by list: no other list may feel it.
	for i, part := range first.Any {
		clear(part.Terms[:cap(part.Terms)])
		for j := i + 1; j < len(first.Any); j++ {
			if !slices.Equal(first.Any[j].Terms, second.Any[j].Terms) {
				t.Errorf("the clauses %d and %d share their terms", i, j)
			}
		}
	}
	clear(first.Any[:cap(first.Any)])
	_, before, beforeClauses := spareFilter(t)
	for i := range stores {
		if !slices.Equal(stores[i], before[i]) {
			t.Errorf("NormalFilter's answer shares the terms %v", before[i])
		}
	}
	if !sameFilter(impl.Filter{Any: clauses}, impl.Filter{Any: beforeClauses}) {
		t.Error("NormalFilter's answer shares the clauses")
	}
	for i := range stores {
		clear(stores[i])
	}
	clear(clauses)
	fresh, _, _ := spareFilter(t)
	if want, _ := impl.NormalFilter(fresh); !sameFilter(second, want) {
		t.Errorf("NormalFilter's answer hangs on what became of its argument: %v, not %v", second, want)
	}
}

func TestP1FiltersShareNoTexts(t *testing.T) {
	f, _, _ := spareFilter(t)
	var given, made []string
	for _, c := range f.Any {
		for _, x := range c.Terms {
			given = append(given, x.Path, x.Value.T)
		}
	}
	normal, _ := impl.NormalFilter(f)
	for _, c := range normal.Any {
		for _, x := range c.Terms {
			made = append(made, x.Path, x.Value.T)
		}
	}
	text, _ := impl.FilterText(f)
	made = append(made, text)
	noOneShares(t, made, given)
}

func TestP1JoinKeysLeavesItsParts(t *testing.T) {
	store := []string{"b", "a", "c", "d"}
	before := slices.Clone(store)
	key, code := impl.JoinKeys(store[:2])
	if key != "ba" || code != impl.OK || !slices.Equal(store, before) {
		t.Errorf("JoinKeys: %q, %d, %q", key, code, store)
	}
}

func TestP1SplitKeysAreNew(t *testing.T) {
	joined := mustKey(t, textOf("abc"), false) + mustKey(t, intOf(1), false) + "\x01"
	parts, _ := impl.SplitKey(joined, 3)
	again, code := impl.SplitKey(joined, 3)
	if code != impl.OK || len(parts) != 3 || !slices.Equal(parts, again) {
		t.Fatalf("SplitKey: %q, then %q, %d", parts, again, code)
	}
	clear(parts[:cap(parts)])
	if strings.Join(again, "") != joined {
		t.Errorf("SplitKey's answers share a list: %q", again)
	}
}

func TestP1KeysShareNoTexts(t *testing.T) {
	long := strings.Repeat("abc", 20)
	v := mustList(t, textOf(long))
	up, down := mustKey(t, v, false), mustKey(t, v, true)
	one, _ := impl.JoinKeys([]string{up})
	most, _ := impl.JoinKeys([]string{"", up, ""})
	parts, _ := impl.SplitKey(up+up, 2)
	whole, _ := impl.SplitKey(up, 1)
	noOneShares(t, append(append(parts, whole...), up, down, one, most), []string{v.T, long})
}

func TestP1IntervalsShareNoTexts(t *testing.T) {
	for _, op := range allTerms {
		x := term(op, strings.Clone("path.of.many"), termValue(op))
		if takes(op, textOf("")) {
			x.Value = textOf(strings.Repeat("abc", 20))
		}
		up, _ := impl.TermInterval(x, false)
		down, _ := impl.TermInterval(x, true)
		noOneShares(t, []string{up.Low, up.High, down.Low, down.High}, []string{x.Path, x.Value.T})
	}
	bound := strings.Repeat("abc", 20)
	for _, a := range []impl.Interval{between(bound, bound), openWith(bound, bound), between(bound, bound+"x"), between(bound[:9], bound[9:])} {
		for _, b := range []impl.Interval{a, between("", "z"), from(""), openWith("a", "z")} {
			both := impl.MeetIntervals(a, b)
			noOneShares(t, []string{both.Low, both.High}, []string{a.Low, a.High, b.Low, b.High})
		}
	}
}

// told writes down all that the calls of chapters 1 and 2 answer to a value, and to its text.
func told(v impl.Value) string {
	var s strings.Builder
	b, code := impl.EncodeValue(v)
	fmt.Fprintln(&s, impl.ValueOK(v), b, code)
	fmt.Fprintln(&s, impl.NameOK(v.T), impl.CodeOf(v.T), impl.CodeWord(v.N))
	w, code := impl.DecodeValue([]byte(v.T))
	fmt.Fprintf(&s, "%q %d\n", fmt.Sprint(w), code)
	items, code := impl.ItemsOf(v)
	fmt.Fprintf(&s, "%q %d\n", fmt.Sprint(items), code)
	fields, code := impl.FieldsOf(v)
	fmt.Fprintf(&s, "%q %d\n", fmt.Sprint(fields), code)
	w, code = impl.ListOf([]impl.Value{v, v})
	fmt.Fprintf(&s, "%q %d\n", fmt.Sprint(w), code)
	w, code = impl.DocOf([]impl.Field{field("b", v), field(v.T, v)})
	fmt.Fprintf(&s, "%q %d\n", fmt.Sprint(w), code)
	n, code := impl.DepthOf(v)
	fmt.Fprintln(&s, n, code)
	text, code := impl.ValueText(v)
	fmt.Fprintf(&s, "%q %d\n", text, code)
	for _, other := range []impl.Value{v, {}, intOf(3)} {
		k, code := impl.OrderValues(v, other)
		fmt.Fprintln(&s, k, code)
	}
	return s.String()
}

// toldPaths writes down all that the calls of chapter 3 answer to a value, and to its text.
func toldPaths(v impl.Value) string {
	var s strings.Builder
	for _, path := range []string{"a", "b.a", "ab.id.a0", v.T} {
		list, code := impl.GetPath(v, path)
		fmt.Fprintf(&s, "%v %q %d\n", impl.PathOK(path), fmt.Sprint(list), code)
		w, code := impl.FirstPath(v, path)
		fmt.Fprintf(&s, "%q %d\n", fmt.Sprint(w), code)
		for op := range 7 {
			for _, other := range []impl.Value{{}, intOf(3), v} {
				u := update(op, path, other)
				w, code := impl.ApplyUpdate(v, u)
				fmt.Fprintf(&s, "%v %q %d\n", impl.UpdateOK(u), fmt.Sprint(w), code)
				w, code = impl.ApplyAll(v, []impl.Update{u, update(impl.UpPush, "b", v), u})
				fmt.Fprintf(&s, "%q %d\n", fmt.Sprint(w), code)
				text, code := impl.UpdateText(u)
				fmt.Fprintf(&s, "%q %d\n", text, code)
			}
		}
	}
	return s.String()
}

// toldFilters writes down all that the calls of chapter 4 answer to a value, and to its text.
func toldFilters(v impl.Value) string {
	var s strings.Builder
	tell := func(f impl.Filter, docs ...impl.Value) {
		for _, doc := range docs {
			lets, code := impl.Matches(f, doc)
			fmt.Fprintln(&s, impl.FilterOK(f), lets, code)
		}
		normal, code := impl.NormalFilter(f)
		fmt.Fprintf(&s, "%q %d\n", fmt.Sprint(normal), code)
		text, code := impl.FilterText(f)
		fmt.Fprintf(&s, "%q %d\n", text, code)
	}
	doc := raw(impl.VaDoc, "\x01a"+string(rawBytes(v)))
	for op := range 12 {
		for _, path := range []string{"a", "ab.id", v.T} {
			x, y := term(op, path, v), term(v.N, "a", v)
			for _, z := range []impl.Term{x, y} {
				lets, code := impl.TermMatches(z, doc)
				fmt.Fprintln(&s, impl.TermOK(z), lets, code)
			}
			tell(filter(clause(x, y, x), clause(x)), v, doc)
			tell(filter(clause(x), clause()), v, doc)
		}
	}
	return s.String()
}

// toldKeys writes down all that the calls of chapter 5 answer to a value, and to its text.
func toldKeys(v impl.Value) string {
	var s strings.Builder
	for _, desc := range []bool{false, true} {
		key, code := impl.KeyOf(v, desc)
		fmt.Fprintf(&s, "%q %d\n", key, code)
		for op := range 12 {
			i, code := impl.TermInterval(term(op, "a", v), desc)
			fmt.Fprintln(&s, shown(i), code, impl.IntervalHas(i, key), impl.IntervalHas(i, v.T))
			both := impl.MeetIntervals(i, impl.Interval{Low: v.T, High: key, Open: desc})
			fmt.Fprintln(&s, shown(both), impl.IntervalHas(both, key))
		}
		both, code := impl.JoinKeys([]string{key, v.T, key})
		fmt.Fprintf(&s, "%q %d\n", both, code)
		for _, n := range []int{v.N, 0, 1, 2, 8, 9} {
			for _, text := range []string{v.T, key, key + v.T, both} {
				parts, code := impl.SplitKey(text, n)
				fmt.Fprintf(&s, "%q %d\n", parts, code)
			}
		}
	}
	return s.String()
}

func junkValues(seed int64, n int) []impl.Value {
	r := rand.New(rand.NewSource(seed))
	var list []impl.Value
	for _, x := range randomNodes(seed, n) {
		v := x.value()
		switch r.Intn(4) {
		case 0:
			v.Kind = r.Intn(9) - 1
		case 1:
			v.N = r.Int() - r.Int()
		case 2:
			b := []byte(v.T + "x")
			b[r.Intn(len(b))] = byte(r.Intn(256))
			v.T = string(b)
		}
		list = append(list, v)
	}
	return list
}

func TestP1AlikeArgumentsAlikeAnswers(t *testing.T) {
	list := junkValues(4, 1500)
	for _, v := range edgeValues() {
		list = append(list, v)
	}
	for _, v := range wrongValues() {
		list = append(list, v)
	}
	all := func(v impl.Value) string {
		return told(v) + toldPaths(v) + toldFilters(v) + toldKeys(v) + toldTrees(v) + toldIndexes(v) + toldPlans(v) + toldVersions(v) + toldCertificates(v) + toldTxns(v) + toldStores(v) + toldSerial(v) + toldWorlds(v) + toldAudit(v)
	}
	first := make([]string, len(list))
	for i, v := range list {
		first[i] = all(v)
	}
	for i := len(list) - 1; i >= 0; i-- {
		v := impl.Value{Kind: list[i].Kind, N: list[i].N, T: strings.Clone(list[i].T)}
		if again := all(v); again != first[i] {
			t.Errorf("the calls of %v answer\n%sand then\n%s", list[i], first[i], again)
		}
	}
}
