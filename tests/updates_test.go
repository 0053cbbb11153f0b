package tests

import (
	"fmt"
	"math/rand"
	"slices"
	"strings"
	"testing"

	"loop.example/g00380/impl"
)

func update(op int, path string, v impl.Value) impl.Update {
	return impl.Update{Op: op, Path: path, Value: v}
}

var allOps = []int{impl.UpSet, impl.UpUnset, impl.UpInc, impl.UpPush, impl.UpPull}

// valueFor is one that is right for each operation.
func valueFor(op int) impl.Value {
	if op == impl.UpUnset {
		return impl.Value{}
	}
	return intOf(4)
}

func TestP3Constants(t *testing.T) {
	if got := fmt.Sprint(allOps); got != "[1 2 3 4 5]" {
		t.Errorf("the operations are %s", got)
	}
}

func TestP3UpdateOK(t *testing.T) {
	fifty := strings.Join([]string{strings.Repeat("n", 12), strings.Repeat("n", 12), strings.Repeat("n", 12), strings.Repeat("n", 11)}, ".")
	for _, op := range allOps {
		v := valueFor(op)
		for _, path := range []string{"a", "a.b.c.d", "id.a", "a.id", "ID", "id_", fifty} {
			if !impl.UpdateOK(update(op, path, v)) {
				t.Errorf("operation %d on %s is right", op, path)
			}
		}
		for _, path := range []string{"id", "", "a.", "a.b.c.d.e", fifty + "n", strings.Repeat("n", 13), strings.Repeat("n", impl.MaxText+1)} {
			if impl.UpdateOK(update(op, path, v)) {
				t.Errorf("operation %d on %.60s is not right", op, path)
			}
		}
		for name, v := range wrongValues() {
			if impl.UpdateOK(update(op, "a", v)) {
				t.Errorf("operation %d with %s is not right", op, name)
			}
		}
		for name, v := range edgeValues() {
			want := op != impl.UpUnset && op != impl.UpInc ||
				op == impl.UpUnset && v.Kind == impl.VaNull || op == impl.UpInc && v.Kind == impl.VaInt
			if impl.UpdateOK(update(op, "a", v)) != want {
				t.Errorf("operation %d with %s: not %v", op, name, want)
			}
		}
	}
	for _, op := range []int{0, 6, -1, 1 << 32, 1<<63 - 1, -1 << 63} {
		for _, v := range []impl.Value{{}, intOf(4)} {
			if impl.UpdateOK(update(op, "a", v)) {
				t.Errorf("there is no operation %d", op)
			}
		}
	}
}

type updateRow struct {
	op   int
	path string
	v    impl.Value
	want string
	code int
}

func hasUpdates(t *testing.T, doc impl.Value, rows []updateRow) {
	t.Helper()
	for _, r := range rows {
		got, code := impl.ApplyUpdate(doc, update(r.op, r.path, r.v))
		if code != r.code || code != impl.OK && got != (impl.Value{}) {
			t.Errorf("operation %d on %s with %v: %v, %d, not %d", r.op, r.path, r.v, got, code, r.code)
			continue
		}
		if code != impl.OK {
			continue
		}
		if s, code := impl.ValueText(got); s != r.want || code != impl.OK {
			t.Errorf("operation %d on %s with %v: %s, not %s", r.op, r.path, r.v, s, r.want)
		}
	}
}

func TestP3Set(t *testing.T) {
	doc := mustDoc(t, field("b", intOf(1)), field("d", mustDoc(t, field("x", impl.Value{}))), field("l", mustList(t, mustDoc(t))))
	hasUpdates(t, doc, []updateRow{
		{impl.UpSet, "b", textOf("s"), "{b:'s',d:{x:null},l:[{}]}", 0},
		{impl.UpSet, "b", impl.Value{}, "{b:null,d:{x:null},l:[{}]}", 0},
		{impl.UpSet, "a", intOf(2), "{a:2,b:1,d:{x:null},l:[{}]}", 0},
		{impl.UpSet, "c", intOf(2), "{b:1,c:2,d:{x:null},l:[{}]}", 0},
		{impl.UpSet, "z", impl.Value{}, "{b:1,d:{x:null},l:[{}],z:null}", 0},
		{impl.UpSet, "d", mustList(t), "{b:1,d:[],l:[{}]}", 0},
		{impl.UpSet, "l", mustDoc(t), "{b:1,d:{x:null},l:{}}", 0},
		{impl.UpSet, "d.x", intOf(2), "{b:1,d:{x:2},l:[{}]}", 0},
		{impl.UpSet, "d.y", intOf(2), "{b:1,d:{x:null,y:2},l:[{}]}", 0},
		{impl.UpSet, "d.a.b.c", intOf(2), "{b:1,d:{a:{b:{c:2}},x:null},l:[{}]}", 0},
		{impl.UpSet, "e.a.b.c", mustList(t), "{b:1,d:{x:null},e:{a:{b:{c:[]}}},l:[{}]}", 0},
		{impl.UpSet, "id.a", intOf(2), "{b:1,d:{x:null},id:{a:2},l:[{}]}", 0},
		{impl.UpSet, "b.a", intOf(2), "", impl.ErrType},
		{impl.UpSet, "d.x.a", intOf(2), "", impl.ErrType},
		{impl.UpSet, "l.a", intOf(2), "", impl.ErrType},
		{impl.UpSet, "id", intOf(2), "", impl.ErrBad},
	})
}

func TestP3Unset(t *testing.T) {
	doc := mustDoc(t, field("b", intOf(1)), field("d", mustDoc(t, field("x", impl.Value{}), field("y", intOf(1)))),
		field("id", intOf(5)), field("l", mustList(t, mustDoc(t, field("a", intOf(1))))))
	none, whole := impl.Value{}, "{b:1,d:{x:null,y:1},id:5,l:[{a:1}]}"
	hasUpdates(t, doc, []updateRow{
		{impl.UpUnset, "b", none, "{d:{x:null,y:1},id:5,l:[{a:1}]}", 0},
		{impl.UpUnset, "d", none, "{b:1,id:5,l:[{a:1}]}", 0},
		{impl.UpUnset, "l", none, "{b:1,d:{x:null,y:1},id:5}", 0},
		{impl.UpUnset, "d.x", none, "{b:1,d:{y:1},id:5,l:[{a:1}]}", 0},
		{impl.UpUnset, "d.y", none, "{b:1,d:{x:null},id:5,l:[{a:1}]}", 0},
		{impl.UpUnset, "a", none, whole, 0},
		{impl.UpUnset, "d.a", none, whole, 0},
		{impl.UpUnset, "d.a.b.c", none, whole, 0},
		{impl.UpUnset, "z.a", none, whole, 0},
		{impl.UpUnset, "d.x.a", none, "", impl.ErrType},
		{impl.UpUnset, "b.a.a", none, "", impl.ErrType},
		{impl.UpUnset, "l.a", none, "", impl.ErrType},
		{impl.UpUnset, "id.a", none, "", impl.ErrType},
		{impl.UpUnset, "id", none, "", impl.ErrBad},
		{impl.UpUnset, "b", intOf(1), "", impl.ErrBad},
	})
	only := mustDoc(t, field("a", mustDoc(t, field("b", intOf(1)))))
	hasUpdates(t, only, []updateRow{
		{impl.UpUnset, "a.b", none, "{a:{}}", 0},
		{impl.UpUnset, "a", none, "{}", 0},
	})
	hasUpdates(t, mustDoc(t), []updateRow{{impl.UpUnset, "a", none, "{}", 0}})
}

func TestP3Inc(t *testing.T) {
	most := impl.MaxNumber
	doc := mustDoc(t, field("a", intOf(5)), field("h", intOf(most)), field("l", mustList(t, intOf(1))),
		field("m", intOf(-most)), field("n", impl.Value{}), field("o", boolOf(1)), field("t", textOf("1")))
	with := func(a, h, m, rest string) string {
		return "{a:" + a + rest + ",h:" + h + ",l:[1],m:" + m + ",n:null,o:true,t:'1'}"
	}
	high, low := fmt.Sprint(most), fmt.Sprint(-most)
	hasUpdates(t, doc, []updateRow{
		{impl.UpInc, "a", intOf(3), with("8", high, low, ""), 0},
		{impl.UpInc, "a", intOf(-6), with("-1", high, low, ""), 0},
		{impl.UpInc, "a", intOf(0), with("5", high, low, ""), 0},
		{impl.UpInc, "a", intOf(most - 5), with(high, high, low, ""), 0},
		{impl.UpInc, "a", intOf(most - 4), "", impl.ErrRange},
		{impl.UpInc, "a", intOf(-most), with(fmt.Sprint(5-most), high, low, ""), 0},
		{impl.UpInc, "h", intOf(0), with("5", high, low, ""), 0},
		{impl.UpInc, "h", intOf(1), "", impl.ErrRange},
		{impl.UpInc, "h", intOf(most), "", impl.ErrRange},
		{impl.UpInc, "h", intOf(-most), with("5", "0", low, ""), 0},
		{impl.UpInc, "m", intOf(-1), "", impl.ErrRange},
		{impl.UpInc, "m", intOf(-most), "", impl.ErrRange},
		{impl.UpInc, "m", intOf(1), with("5", high, fmt.Sprint(1-most), ""), 0},
		{impl.UpInc, "b", intOf(-most), with("5", high, low, ",b:"+low), 0},
		{impl.UpInc, "b.c", intOf(0), with("5", high, low, ",b:{c:0}"), 0},
		{impl.UpInc, "b", intOf(most + 1), "", impl.ErrBad},
		{impl.UpInc, "a", boolOf(1), "", impl.ErrBad},
		{impl.UpInc, "a", impl.Value{}, "", impl.ErrBad},
		{impl.UpInc, "l", intOf(1), "", impl.ErrType},
		{impl.UpInc, "n", intOf(1), "", impl.ErrType},
		{impl.UpInc, "o", intOf(1), "", impl.ErrType},
		{impl.UpInc, "t", intOf(1), "", impl.ErrType},
		{impl.UpInc, "l.a", intOf(1), "", impl.ErrType},
		{impl.UpInc, "a.a", intOf(1), "", impl.ErrType},
	})
}

func TestP3PushAndPull(t *testing.T) {
	one := mustList(t, intOf(1))
	doc := mustDoc(t, field("a", intOf(5)), field("d", mustDoc(t)), field("e", mustList(t)),
		field("l", mustList(t, intOf(1), textOf("1"), one, intOf(1), boolOf(1), one)), field("n", impl.Value{}))
	with := func(d, e, l, n string) string { return "{a:5,d:" + d + ",e:" + e + ",l:" + l + ",n:null" + n + "}" }
	all := "[1,'1',[1],1,true,[1]]"
	whole := with("{}", "[]", all, "")
	hasUpdates(t, doc, []updateRow{
		{impl.UpPush, "e", intOf(1), with("{}", "[1]", all, ""), 0},
		{impl.UpPush, "e", impl.Value{}, with("{}", "[null]", all, ""), 0},
		{impl.UpPush, "e", one, with("{}", "[[1]]", all, ""), 0},
		{impl.UpPush, "l", intOf(1), with("{}", "[]", "[1,'1',[1],1,true,[1],1]", ""), 0},
		{impl.UpPush, "l", intOf(0), with("{}", "[]", "[1,'1',[1],1,true,[1],0]", ""), 0},
		{impl.UpPush, "x", one, with("{}", "[]", all, ",x:[[1]]"), 0},
		{impl.UpPush, "d.x.y", textOf("q"), with("{x:{y:['q']}}", "[]", all, ""), 0},
		{impl.UpPull, "e", intOf(1), whole, 0},
		{impl.UpPull, "l", intOf(1), with("{}", "[]", "['1',[1],true,[1]]", ""), 0},
		{impl.UpPull, "l", one, with("{}", "[]", "[1,'1',1,true]", ""), 0},
		{impl.UpPull, "l", textOf("1"), with("{}", "[]", "[1,[1],1,true,[1]]", ""), 0},
		{impl.UpPull, "l", textOf(""), whole, 0},
		{impl.UpPull, "l", boolOf(0), whole, 0},
		{impl.UpPull, "l", impl.Value{}, whole, 0},
		{impl.UpPull, "x", intOf(1), whole, 0},
		{impl.UpPull, "d.x", intOf(1), whole, 0},
		{impl.UpPull, "x.y.z", intOf(1), whole, 0},
	})
	for _, op := range []int{impl.UpPush, impl.UpPull} {
		for _, path := range []string{"a", "d", "n", "a.x", "n.x", "e.x", "l.x"} {
			hasUpdates(t, doc, []updateRow{{op, path, intOf(5), "", impl.ErrType}})
		}
	}
	hasUpdates(t, mustDoc(t, field("l", mustList(t, intOf(1), intOf(1)))), []updateRow{{impl.UpPull, "l", intOf(1), "{l:[]}", 0}})
}

func TestP3Size(t *testing.T) {
	empty, full := mustDoc(t), mustDoc(t, field("a", textOfLength(295)))
	rows := []struct {
		what string
		doc  impl.Value
		u    impl.Update
		code int
	}{
		{"300 bytes set", empty, update(impl.UpSet, "a", textOfLength(295)), impl.OK},
		{"301 bytes set", empty, update(impl.UpSet, "a", textOfLength(296)), impl.ErrSize},
		{"301 bytes by the name", empty, update(impl.UpSet, "ab", textOfLength(295)), impl.ErrSize},
		{"300 bytes within another", empty, update(impl.UpSet, "a.a", textOfLength(290)), impl.OK},
		{"301 bytes within another", empty, update(impl.UpSet, "a.a", textOfLength(291)), impl.ErrSize},
		{"300 bytes of a text within four", empty, update(impl.UpSet, "a.a.a.a", textOfLength(300)), impl.ErrSize},
		{"300 bytes pushed", empty, update(impl.UpPush, "a", textOfLength(292)), impl.OK},
		{"301 bytes pushed", empty, update(impl.UpPush, "a", textOfLength(293)), impl.ErrSize},
		{"a null more", full, update(impl.UpSet, "b", impl.Value{}), impl.ErrSize},
		{"a number more", full, update(impl.UpInc, "b", intOf(1)), impl.ErrSize},
		{"another in its place", full, update(impl.UpSet, "a", textOfLength(295)), impl.OK},
		{"a greater one in its place", full, update(impl.UpSet, "a", textOfLength(296)), impl.ErrSize},
		{"taken from a full one", full, update(impl.UpUnset, "b", impl.Value{}), impl.OK},
		{"of another kind in a full one", full, update(impl.UpPush, "a", textOfLength(300)), impl.ErrType},
		{"through another kind in a full one", full, update(impl.UpSet, "a.b", textOfLength(300)), impl.ErrType},
		{"too deep and too great", full, update(impl.UpSet, "b", nested(5, impl.VaList)), impl.ErrSize},
	}
	for _, r := range rows {
		v, code := impl.ApplyUpdate(r.doc, r.u)
		if code != r.code || code != impl.OK && v != (impl.Value{}) || code == impl.OK && !impl.ValueOK(v) {
			t.Errorf("%s: %v, %d, not %d", r.what, v, code, r.code)
		}
	}
}

func TestP3Deep(t *testing.T) {
	path := "a"
	for names := 1; names <= 4; names++ {
		for depth := 0; depth <= impl.MaxDeep; depth++ {
			for _, op := range []int{impl.UpSet, impl.UpPush} {
				for _, doc := range []impl.Value{mustDoc(t), mustDoc(t, field("a", nested(names-1, impl.VaDoc)))} {
					deep := names + depth
					if op == impl.UpPush {
						deep++
					}
					want := impl.OK
					if op == impl.UpPush && doc.T != "" {
						// What was there is a null, which is no list.
						want = impl.ErrType
					} else if deep > impl.MaxDeep {
						want = impl.ErrDeep
					}
					v, code := impl.ApplyUpdate(doc, update(op, path, nested(depth, impl.VaList, impl.VaDoc)))
					if code != want || code != impl.OK && v != (impl.Value{}) || code == impl.OK && !impl.ValueOK(v) {
						t.Errorf("operation %d on %s with %d deep: %v, %d, not %d", op, path, depth, v, code, want)
					}
				}
			}
		}
		path += ".a"
	}
	list := mustDoc(t, field("a", mustList(t)))
	hasUpdates(t, list, []updateRow{
		{impl.UpPush, "a", nested(3, impl.VaList), "{a:[[[[null]]]]}", 0},
		{impl.UpPush, "a", nested(4, impl.VaList), "", impl.ErrDeep},
		{impl.UpPull, "a", nested(5, impl.VaList), "{a:[]}", 0},
		{impl.UpSet, "a.b", nested(5, impl.VaList), "", impl.ErrType},
	})
}

func TestP3ApplyUpdateBad(t *testing.T) {
	wrong := []impl.Value{{}, intOf(1), textOf("a"), mustList(t), mustList(t, mustDoc(t)), raw(impl.VaDoc, "a"),
		nested(6, impl.VaDoc), {Kind: impl.VaDoc, N: 1}, {Kind: 6}, {Kind: -1}}
	for _, op := range allOps {
		for _, doc := range wrong {
			u := update(op, "a", valueFor(op))
			if v, code := impl.ApplyUpdate(doc, u); v != (impl.Value{}) || code != impl.ErrBad {
				t.Errorf("operation %d on %v: %v, %d", op, doc, v, code)
			}
			if v, code := impl.ApplyAll(doc, []impl.Update{u}); v != (impl.Value{}) || code != impl.ErrBad {
				t.Errorf("operations %d on %v: %v, %d", op, doc, v, code)
			}
		}
		// A wrong operation is told ahead of a value of another kind on its way.
		doc := mustDoc(t, field("a", textOf("x")))
		if v, code := impl.ApplyUpdate(doc, update(op, "a.b", boolOf(2))); v != (impl.Value{}) || code != impl.ErrBad {
			t.Errorf("operation %d with a wrong value: %v, %d", op, v, code)
		}
		long := update(op, strings.Repeat("a", impl.MaxText+1), valueFor(op))
		if v, code := impl.ApplyUpdate(doc, long); v != (impl.Value{}) || code != impl.ErrBad {
			t.Errorf("operation %d with a long path: %v, %d", op, v, code)
		}
	}
}

func TestP3ApplyAll(t *testing.T) {
	doc := mustDoc(t, field("a", intOf(1)))
	inc, big := update(impl.UpInc, "a", intOf(1)), update(impl.UpSet, "b", textOfLength(297))
	unset, through := update(impl.UpUnset, "a", impl.Value{}), update(impl.UpSet, "a.b", intOf(2))
	wrong, far := update(6, "a", intOf(1)), update(impl.UpInc, "a", intOf(impl.MaxNumber))
	deep := update(impl.UpSet, "c", nested(5, impl.VaDoc))
	rows := []struct {
		what string
		list []impl.Update
		want string
		code int
	}{
		{"none", nil, "", impl.ErrBad},
		{"an empty list", []impl.Update{}, "", impl.ErrBad},
		{"one", []impl.Update{inc}, "{a:2}", 0},
		{"four", []impl.Update{inc, inc, inc, inc}, "{a:5}", 0},
		{"five", []impl.Update{inc, inc, inc, inc, inc}, "", impl.ErrBad},
		{"five, the first of which has a code", []impl.Update{through, inc, inc, inc, inc}, "", impl.ErrBad},
		{"one behind the other", []impl.Update{unset, through, inc}, "", impl.ErrType},
		{"what was made ahead", []impl.Update{unset, through}, "{a:{b:2}}", 0},
		{"what was taken ahead", []impl.Update{unset, inc}, "{a:1}", 0},
		{"a wrong one last", []impl.Update{inc, wrong}, "", impl.ErrBad},
		{"type, then wrong", []impl.Update{inc, through, wrong}, "", impl.ErrBad},
		{"wrong, then type", []impl.Update{inc, wrong, through}, "", impl.ErrBad},
		{"range, then type", []impl.Update{far, through}, "", impl.ErrRange},
		{"type, then range", []impl.Update{through, far}, "", impl.ErrType},
		{"size, then wrong", []impl.Update{big, wrong}, "", impl.ErrBad},
		{"deep, then size", []impl.Update{deep, big}, "", impl.ErrDeep},
		{"size, then deep", []impl.Update{big, deep}, "", impl.ErrSize},
		{"too great in between", []impl.Update{big, update(impl.UpUnset, "b", impl.Value{})}, "", impl.ErrSize},
		{"MaxList", slices.Repeat([]impl.Update{inc}, impl.MaxList), "", impl.ErrBad},
		{"one more", slices.Repeat([]impl.Update{inc}, impl.MaxList+1), "", impl.ErrLong},
	}
	for _, r := range rows {
		v, code := impl.ApplyAll(doc, r.list)
		if code != r.code || code != impl.OK && v != (impl.Value{}) {
			t.Errorf("ApplyAll of %s: %v, %d, not %d", r.what, v, code, r.code)
		}
		if s, _ := impl.ValueText(v); code == impl.OK && s != r.want {
			t.Errorf("ApplyAll of %s: %s, not %s", r.what, s, r.want)
		}
	}
	if v, code := impl.ApplyAll(impl.Value{}, slices.Repeat([]impl.Update{inc}, impl.MaxList+1)); v != (impl.Value{}) || code != impl.ErrLong {
		t.Errorf("ApplyAll of too many on null: %v, %d", v, code)
	}
}

// A wrong operation is told wherever it stands, ahead of the codes of those before it.
func TestP3ApplyAllWrongOperations(t *testing.T) {
	doc := mustDoc(t, field("b", intOf(impl.MaxNumber)), field("c", boolOf(0)))
	coded := map[int]impl.Update{
		impl.OK:       update(impl.UpSet, "a", intOf(1)),
		impl.ErrType:  update(impl.UpInc, "b.c", intOf(1)),
		impl.ErrRange: update(impl.UpInc, "b", intOf(1)),
		impl.ErrSize:  update(impl.UpSet, "a", textOfLength(impl.MaxBody)),
		impl.ErrDeep:  update(impl.UpSet, "a", nested(impl.MaxDeep, impl.VaList)),
	}
	wrong := []impl.Update{{}, update(6, "a", intOf(1)), update(-1, "a", intOf(1)), update(impl.UpPush, "tags.a", boolOf(5)),
		update(impl.UpSet, "id", intOf(1)), update(impl.UpSet, "", intOf(1)), update(impl.UpSet, strings.Repeat("a", impl.MaxText+1), intOf(1)),
		update(impl.UpUnset, "b", intOf(1)), update(impl.UpInc, "b", impl.Value{}), update(impl.UpPull, "a", nested(6, impl.VaList))}
	for code, u := range coded {
		for length := 1; length <= 4; length++ {
			list := slices.Repeat([]impl.Update{u}, length)
			if v, got := impl.ApplyAll(doc, list); got != code || code != impl.OK && v != (impl.Value{}) {
				t.Errorf("ApplyAll of %d right operations: %v, %d, not %d", length, v, got, code)
			}
			for place := range list {
				for _, w := range wrong {
					mixed := slices.Clone(list)
					mixed[place] = w
					if v, got := impl.ApplyAll(doc, mixed); v != (impl.Value{}) || got != impl.ErrBad {
						t.Errorf("ApplyAll of %d operations, a wrong one at %d, the others' code %d: %v, %d", length, place, code, v, got)
					}
				}
			}
			if v, got := impl.ApplyAll(mustList(t), list); v != (impl.Value{}) || got != impl.ErrBad {
				t.Errorf("ApplyAll of %d operations on a list: %v, %d", length, v, got)
			}
		}
	}
}

// What ApplyAll answers is what ApplyUpdate does, one after the other, if no operation is wrong.
func TestP3ApplyAllOfRandomDocuments(t *testing.T) {
	r := rand.New(rand.NewSource(37))
	seen := make([]int, 20)
	for _, x := range randomDocs(38, 4000) {
		paths := append(x.pathsOf("", 4), randomPath(r), randomPath(r))
		list := make([]impl.Update, 1+r.Intn(4))
		for i := range list {
			op, path := pick(r, allOps), pick(r, paths)
			list[i] = update(op, path, operand(r, op, x.comesTo(path)).value())
			if r.Intn(40) == 0 {
				list[i] = update(impl.UpSet, path, textOfLength(impl.MaxBody))
			}
		}
		want, code := x.value(), impl.OK
		for _, u := range list {
			if code == impl.OK {
				want, code = impl.ApplyUpdate(want, u)
			}
		}
		if slices.ContainsFunc(list, func(u impl.Update) bool { return !impl.UpdateOK(u) }) {
			want, code = impl.Value{}, impl.ErrBad
		}
		if got, c := impl.ApplyAll(x.value(), list); got != want || c != code {
			t.Errorf("ApplyAll of %v on %v: %v, %d, not %v, %d", list, x, got, c, want, code)
		}
		seen[code]++
	}
	for _, code := range []int{impl.OK, impl.ErrBad, impl.ErrType, impl.ErrRange, impl.ErrSize, impl.ErrDeep} {
		if seen[code] < 10 {
			t.Errorf("the code %s was asked for %d times only", impl.CodeWord(code), seen[code])
		}
	}
}

func TestP3UpdateText(t *testing.T) {
	rows := map[string]impl.Update{
		"set a 5":                   update(impl.UpSet, "a", intOf(5)),
		"set a.b.c.d null":          update(impl.UpSet, "a.b.c.d", impl.Value{}),
		"set a {b:[true],c:'x y'}":  update(impl.UpSet, "a", mustDoc(t, field("c", textOf("x y")), field("b", mustList(t, boolOf(1))))),
		"unset a.b":                 update(impl.UpUnset, "a.b", impl.Value{}),
		"inc id_ -1000000000000":    update(impl.UpInc, "id_", intOf(-impl.MaxNumber)),
		"push a ''":                 update(impl.UpPush, "a", textOf("")),
		"push id.x [[null]]":        update(impl.UpPush, "id.x", nested(2, impl.VaList)),
		"pull a false":              update(impl.UpPull, "a", boolOf(0)),
		"pull a 'it is ' a quote '": update(impl.UpPull, "a", textOf("it is ' a quote ")),
	}
	for want, u := range rows {
		if s, code := impl.UpdateText(u); s != want || code != impl.OK {
			t.Errorf("UpdateText: %q, %d, not %q", s, code, want)
		}
	}
	wrong := []impl.Update{{}, update(0, "a", intOf(1)), update(6, "a", intOf(1)), update(-1, "a", intOf(1)),
		update(impl.UpSet, "id", intOf(1)), update(impl.UpSet, "", intOf(1)), update(impl.UpSet, "a", boolOf(2)),
		update(impl.UpUnset, "a", intOf(0)), update(impl.UpInc, "a", textOf("1")), update(impl.UpInc, "a", impl.Value{}),
		update(impl.UpPush, "a..b", intOf(1)), update(impl.UpPull, strings.Repeat("a", impl.MaxText+1), intOf(1))}
	for _, u := range wrong {
		if s, code := impl.UpdateText(u); s != "" || code != impl.ErrBad {
			t.Errorf("UpdateText of %v: %q, %d", u, s, code)
		}
	}
}

// own is a node whose lists no other one has.
func (x node) own() node {
	x.names, x.items = slices.Clone(x.names), slices.Clone(x.items)
	return x
}

func (x node) with(name string, item node) node {
	x = x.own()
	i, there := slices.BinarySearch(x.names, name)
	if there {
		x.items[i] = item
		return x
	}
	x.names, x.items = slices.Insert(x.names, i, name), slices.Insert(x.items, i, item)
	return x
}

func (x node) without(name string) node {
	x = x.own()
	if i, there := slices.BinarySearch(x.names, name); there {
		x.names, x.items = slices.Delete(x.names, i, i+1), slices.Delete(x.items, i, i+1)
	}
	return x
}

// leaf is what an operation makes of the value at its path.
func leaf(op int, old node, there bool, v node) (node, int) {
	if op == impl.UpSet || !there && op == impl.UpInc {
		return v, impl.OK
	}
	if !there {
		return node{kind: impl.VaList, items: []node{v}}, impl.OK
	}
	if op == impl.UpInc {
		if old.kind != impl.VaInt {
			return node{}, impl.ErrType
		}
		if sum := old.n + v.n; sum < -impl.MaxNumber || sum > impl.MaxNumber {
			return node{}, impl.ErrRange
		}
		return node{kind: impl.VaInt, n: old.n + v.n}, impl.OK
	}
	if old.kind != impl.VaList {
		return node{}, impl.ErrType
	}
	list := node{kind: impl.VaList}
	for _, item := range old.items {
		if op == impl.UpPush || item.order(v) != 0 {
			list.items = append(list.items, item)
		}
	}
	if op == impl.UpPush {
		list.items = append(list.items, v)
	}
	return list, impl.OK
}

func (x node) after(op int, names []string, v node) (node, int) {
	old, there := x.field(names[0])
	if !there && (op == impl.UpUnset || op == impl.UpPull) {
		return x, impl.OK
	}
	if len(names) == 1 && op == impl.UpUnset {
		return x.without(names[0]), impl.OK
	}
	code := impl.OK
	if len(names) == 1 {
		old, code = leaf(op, old, there, v)
	} else {
		if !there {
			old = node{kind: impl.VaDoc}
		}
		if old.kind != impl.VaDoc {
			return node{}, impl.ErrType
		}
		old, code = old.after(op, names[1:], v)
	}
	return x.with(names[0], old), code
}

// applied is what ApplyUpdate has to answer.
func (x node) applied(op int, path string, v node) (impl.Value, int) {
	y, code := x.after(op, strings.Split(path, "."), v)
	switch {
	case path == "id" || op == impl.UpInc && v.kind != impl.VaInt || op == impl.UpUnset && v.kind != impl.VaNull:
		return impl.Value{}, impl.ErrBad
	case code != impl.OK:
		return impl.Value{}, code
	case !y.fits():
		return impl.Value{}, impl.ErrSize
	case y.depth() > impl.MaxDeep:
		return impl.Value{}, impl.ErrDeep
	}
	return y.value(), impl.OK
}

func pick[T any](r *rand.Rand, list []T) T { return list[r.Intn(len(list))] }

// operand is a value for an operation: often one that the path comes to.
func operand(r *rand.Rand, op int, found []node) node {
	if op == impl.UpUnset && r.Intn(20) > 0 {
		return node{}
	}
	if op == impl.UpInc && r.Intn(20) > 0 {
		return node{kind: impl.VaInt, n: pick(r, []int{0, 1, -1, impl.MaxNumber, -impl.MaxNumber, 7})}
	}
	if len(found) > 0 && r.Intn(2) == 0 {
		return pick(r, found)
	}
	return randomNode(r, r.Intn(impl.MaxDeep))
}

func TestP3UpdatesOfRandomDocuments(t *testing.T) {
	r := rand.New(rand.NewSource(33))
	seen := make([]int, 20)
	for _, x := range randomDocs(34, 1500) {
		paths := append(x.pathsOf("", 4), randomPath(r), randomPath(r))
		for range 12 {
			op, path := pick(r, allOps), pick(r, paths)
			v := operand(r, op, x.comesTo(path))
			if !v.fits() {
				continue
			}
			want, code := x.applied(op, path, v)
			got, c := impl.ApplyUpdate(x.value(), update(op, path, v.value()))
			if got != want || c != code {
				t.Errorf("operation %d on %s with %v of %v: %v, %d, not %v, %d", op, path, v, x, got, c, want, code)
			}
			seen[code]++
		}
	}
	for _, code := range []int{impl.OK, impl.ErrBad, impl.ErrType, impl.ErrRange, impl.ErrSize, impl.ErrDeep} {
		if seen[code] < 10 {
			t.Errorf("the code %s was asked for %d times only", impl.CodeWord(code), seen[code])
		}
	}
}

func TestP3SetIsComeTo(t *testing.T) {
	r := rand.New(rand.NewSource(35))
	for _, x := range randomDocs(36, 1000) {
		for range 4 {
			path, v := randomPath(r), randomNode(r, 2)
			doc, code := impl.ApplyUpdate(x.value(), update(impl.UpSet, path, v.value()))
			if code != impl.OK {
				continue
			}
			list, code := impl.GetPath(doc, path)
			if code != impl.OK || len(list) == 0 || list[0] != v.value() {
				t.Errorf("%s set to %v in %v: %v, %d", path, v, x, list, code)
			}
			gone, code := impl.ApplyUpdate(doc, update(impl.UpUnset, path, impl.Value{}))
			list, c := impl.GetPath(gone, path)
			if code != impl.OK || c != impl.OK || len(list) != 0 {
				t.Errorf("%s taken from %v: %v, %d, %d", path, x, list, code, c)
			}
		}
	}
}
