package tests

import (
	"encoding/binary"
	"strings"
	"testing"

	"loop.example/g00380/impl"
)

// key is chapter 5's word on a value's rising key, of trees.
func (x node) key() string {
	var b strings.Builder
	b.WriteByte(byte(x.kind) + 1)
	switch x.kind {
	case impl.VaBool:
		b.WriteByte(byte(x.n))
	case impl.VaInt:
		b.Write(binary.BigEndian.AppendUint64(nil, uint64(int64(x.n)+1<<62)))
	case impl.VaText:
		b.WriteString(endedText(x.text))
	case impl.VaList, impl.VaDoc:
		for i, item := range x.items {
			if x.kind == impl.VaDoc {
				b.WriteString("\x01" + endedText(x.names[i]))
			}
			b.WriteString(item.key())
		}
		b.WriteByte(0)
	}
	return b.String()
}

func endedText(s string) string { return strings.ReplaceAll(s, "\x00", "\x00\xff") + "\x00\x00" }

// falling is a rising key the other way round.
func falling(key string) string {
	var b strings.Builder
	for i := range len(key) {
		b.WriteByte(^key[i])
	}
	return b.String()
}

func mustKey(t *testing.T, v impl.Value, desc bool) string {
	t.Helper()
	key, code := impl.KeyOf(v, desc)
	if code != impl.OK {
		t.Fatalf("KeyOf(%v, %v): code %d", v, desc, code)
	}
	return key
}

type keyRow struct {
	v    impl.Value
	want string
}

func hasKeys(t *testing.T, rows []keyRow) {
	t.Helper()
	for _, r := range rows {
		if key := mustKey(t, r.v, false); key != r.want {
			t.Errorf("KeyOf(%v, false) = %q, not %q", r.v, key, r.want)
		}
		if key := mustKey(t, r.v, true); key != falling(r.want) {
			t.Errorf("KeyOf(%v, true) = %q, not %q", r.v, key, falling(r.want))
		}
	}
}

func TestP5KeysOfLeaves(t *testing.T) {
	hasKeys(t, []keyRow{
		{impl.Value{}, "\x01"},
		{boolOf(0), "\x02\x00"},
		{boolOf(1), "\x02\x01"},
		{intOf(0), "\x03\x40\x00\x00\x00\x00\x00\x00\x00"},
		{intOf(1), "\x03\x40\x00\x00\x00\x00\x00\x00\x01"},
		{intOf(255), "\x03\x40\x00\x00\x00\x00\x00\x00\xff"},
		{intOf(256), "\x03\x40\x00\x00\x00\x00\x00\x01\x00"},
		{intOf(-1), "\x03\x3f\xff\xff\xff\xff\xff\xff\xff"},
		{intOf(impl.MaxNumber), "\x03\x40\x00\x00\xe8\xd4\xa5\x10\x00"},
		{intOf(-impl.MaxNumber), "\x03\x3f\xff\xff\x17\x2b\x5a\xf0\x00"},
		{textOf(""), "\x04\x00\x00"},
		{textOf("a"), "\x04a\x00\x00"},
		{textOf("ab"), "\x04ab\x00\x00"},
		{textOf("\x00"), "\x04\x00\xff\x00\x00"},
		{textOf("\x00\x00"), "\x04\x00\xff\x00\xff\x00\x00"},
		{textOf("a\x00"), "\x04a\x00\xff\x00\x00"},
		{textOf("\x00a"), "\x04\x00\xffa\x00\x00"},
		{textOf("\xff"), "\x04\xff\x00\x00"},
		{textOf("\xff\x00"), "\x04\xff\x00\xff\x00\x00"},
		{textOf("\x00\xff"), "\x04\x00\xff\xff\x00\x00"},
		{textOf("\x01\xfe"), "\x04\x01\xfe\x00\x00"},
		{textOf("\xc3\xa9"), "\x04\xc3\xa9\x00\x00"},
		{textOfLength(impl.MaxBody), "\x04" + strings.Repeat("x", impl.MaxBody) + "\x00\x00"},
		{textOf(strings.Repeat("\x00", impl.MaxBody)), "\x04" + strings.Repeat("\x00\xff", impl.MaxBody) + "\x00\x00"},
	})
}

func TestP5KeysOfListsAndDocuments(t *testing.T) {
	one := "\x03\x40\x00\x00\x00\x00\x00\x00\x01"
	twelve := strings.Repeat("n", 12)
	hasKeys(t, []keyRow{
		{mustList(t), "\x05\x00"},
		{mustList(t, impl.Value{}), "\x05\x01\x00"},
		{mustList(t, impl.Value{}, impl.Value{}), "\x05\x01\x01\x00"},
		{mustList(t, boolOf(0), intOf(1), textOf("")), "\x05\x02\x00" + one + "\x04\x00\x00\x00"},
		{mustList(t, textOf("\x00"), boolOf(1)), "\x05\x04\x00\xff\x00\x00\x02\x01\x00"},
		{mustList(t, mustList(t)), "\x05\x05\x00\x00"},
		{mustList(t, mustList(t), mustList(t)), "\x05\x05\x00\x05\x00\x00"},
		{mustList(t, mustDoc(t), impl.Value{}), "\x05\x06\x00\x01\x00"},
		{mustDoc(t), "\x06\x00"},
		{mustDoc(t, field("a", impl.Value{})), "\x06\x01a\x00\x00\x01\x00"},
		{mustDoc(t, field("b", intOf(1)), field("a", textOf("\x00x"))), "\x06\x01a\x00\x00\x04\x00\xffx\x00\x00\x01b\x00\x00" + one + "\x00"},
		{mustDoc(t, field(twelve, boolOf(1))), "\x06\x01" + twelve + "\x00\x00\x02\x01\x00"},
		{mustDoc(t, field("a", mustDoc(t)), field("aa", mustList(t))), "\x06\x01a\x00\x00\x06\x00\x01aa\x00\x00\x05\x00\x00"},
		{mustDoc(t, field("a", mustList(t, mustDoc(t, field("b", impl.Value{}))))), "\x06\x01a\x00\x00\x05\x06\x01b\x00\x00\x01\x00\x00\x00"},
		{nested(5, impl.VaList), "\x05\x05\x05\x05\x05\x01\x00\x00\x00\x00\x00"},
		{nested(5, impl.VaDoc), strings.Repeat("\x06\x01a\x00\x00", 5) + "\x01" + strings.Repeat("\x00", 5)},
		{raw(impl.VaList, strings.Repeat("\x00", impl.MaxBody)), "\x05" + strings.Repeat("\x01", impl.MaxBody) + "\x00"},
	})
}

func TestP5RandomKeys(t *testing.T) {
	for _, x := range randomNodes(51, 3000) {
		hasKeys(t, []keyRow{{x.value(), x.key()}})
	}
}

func TestP5NoKeysOfWrongValues(t *testing.T) {
	for name, v := range wrongValues() {
		for _, desc := range []bool{false, true} {
			if key, code := impl.KeyOf(v, desc); key != "" || code != impl.ErrBad {
				t.Errorf("%s: KeyOf = %q, %d", name, key, code)
			}
		}
	}
}

// closeNodes are values of which many begin alike: their keys differ late, and by the bytes that
// keys have signs for.
func closeNodes() []node {
	var list []node
	bytes := []string{"\x00", "\x01", "\x02", "a", "\xfe", "\xff"}
	texts := []string{""}
	for _, a := range bytes {
		texts = append(texts, a)
		for _, b := range bytes {
			texts = append(texts, a+b, a+b+"\x00", a+b+"\xff")
		}
	}
	for _, s := range texts {
		list = append(list, node{kind: impl.VaText, text: s})
	}
	for _, n := range []int{-impl.MaxNumber, -65536, -257, -256, -255, -1, 0, 1, 127, 128, 255, 256, 257, 65535, 65536, 1 << 32, impl.MaxNumber} {
		list = append(list, node{kind: impl.VaInt, n: n})
	}
	few := []node{{}, {kind: impl.VaBool}, {kind: impl.VaBool, n: 1}, {kind: impl.VaInt}, {kind: impl.VaText}, {kind: impl.VaText, text: "\x00"},
		{kind: impl.VaText, text: "\x00\x00"}, {kind: impl.VaText, text: "\x01"}, {kind: impl.VaList}, {kind: impl.VaDoc}}
	for _, x := range few {
		list = append(list, x, node{kind: impl.VaList, items: []node{x}})
		for _, name := range []string{"a", "aa", "b"} {
			list = append(list, node{kind: impl.VaDoc, names: []string{name}, items: []node{x}})
		}
		for _, y := range few {
			pair := node{kind: impl.VaList, items: []node{x, y}}
			list = append(list, pair, node{kind: impl.VaList, items: []node{pair}})
			list = append(list, node{kind: impl.VaDoc, names: []string{"a", "b"}, items: []node{x, y}})
			list = append(list, node{kind: impl.VaDoc, names: []string{"a"}, items: []node{{kind: impl.VaDoc, names: []string{"a"}, items: []node{pair}}}})
		}
	}
	return list
}

func hasKeysInOrder(t *testing.T, list []node) {
	t.Helper()
	up, down := make([]string, len(list)), make([]string, len(list))
	for i, x := range list {
		up[i], down[i] = mustKey(t, x.value(), false), mustKey(t, x.value(), true)
	}
	for i, x := range list {
		for j, y := range list {
			order := x.order(y)
			if strings.Compare(up[i], up[j]) != order || strings.Compare(down[j], down[i]) != order {
				t.Fatalf("%v and %v are in the order %d, their keys %q, %q and %q, %q not", x, y, order, up[i], up[j], down[i], down[j])
			}
			if order != 0 && (strings.HasPrefix(up[i], up[j]) || strings.HasPrefix(down[i], down[j])) {
				t.Fatalf("the key %q of %v begins with the key %q of %v", up[i], x, up[j], y)
			}
		}
	}
}

func TestP5KeysOfCloseValuesInOrder(t *testing.T) { hasKeysInOrder(t, closeNodes()) }

func TestP5KeysOfRandomValuesInOrder(t *testing.T) { hasKeysInOrder(t, randomNodes(52, 700)) }

func TestP5KeysRise(t *testing.T) {
	list := risingValues(t)
	for i := 1; i < len(list); i++ {
		if a, b := mustKey(t, list[i-1], false), mustKey(t, list[i], false); a >= b {
			t.Errorf("the keys of %v and %v don't rise: %q, %q", list[i-1], list[i], a, b)
		}
		if a, b := mustKey(t, list[i-1], true), mustKey(t, list[i], true); a <= b {
			t.Errorf("the keys of %v and %v don't fall: %q, %q", list[i-1], list[i], a, b)
		}
	}
}

// Joined keys are in the order of the first values, alike ones in that of the second, each its own way.
func TestP5JoinedKeysInOrder(t *testing.T) {
	list := randomNodes(53, 16)
	list = append(list, node{}, node{kind: impl.VaText, text: "\x00"}, node{kind: impl.VaText}, node{kind: impl.VaList}, node{kind: impl.VaDoc})
	type pair struct{ a, b node }
	var pairs []pair
	for _, a := range list {
		for _, b := range list {
			pairs = append(pairs, pair{a, b})
		}
	}
	ways := []bool{false, true}
	for _, first := range ways {
		for _, second := range ways {
			keys := make([]string, len(pairs))
			for i, p := range pairs {
				keys[i], _ = impl.JoinKeys([]string{mustKey(t, p.a.value(), first), mustKey(t, p.b.value(), second)})
			}
			for i, p := range pairs {
				for j, q := range pairs {
					want := turnedOrder(p.a.order(q.a), first)
					if want == 0 {
						want = turnedOrder(p.b.order(q.b), second)
					}
					if strings.Compare(keys[i], keys[j]) != want {
						t.Fatalf("%v, %v and %v, %v (%v, %v): %q, %q", p.a, p.b, q.a, q.b, first, second, keys[i], keys[j])
					}
				}
			}
		}
	}
}

func turnedOrder(order int, desc bool) int {
	if desc {
		return -order
	}
	return order
}

type joinRow struct {
	what  string
	parts []string
	want  string
	code  int
}

func repeated(n int, part string) []string {
	parts := make([]string, n)
	for i := range parts {
		parts[i] = part
	}
	return parts
}

func TestP5JoinKeys(t *testing.T) {
	long, over := strings.Repeat("p", 1000), strings.Repeat("p", 1001)
	huge := strings.Repeat("p", impl.MaxText+1)
	for _, r := range []joinRow{
		{"no part", nil, "", impl.OK},
		{"an empty list", []string{}, "", impl.OK},
		{"an empty part", []string{""}, "", impl.OK},
		{"one part", []string{"\x01"}, "\x01", impl.OK},
		{"two parts", []string{"b", "a"}, "ba", impl.OK},
		{"any bytes", []string{"\x00\xff", "", "no key", "\x00"}, "\x00\xffno key\x00", impl.OK},
		{"8 parts", []string{"1", "2", "3", "4", "5", "6", "7", "8"}, "12345678", impl.OK},
		{"9 parts", repeated(9, "\x01"), "", impl.ErrSize},
		{"9 empty parts", repeated(9, ""), "", impl.ErrSize},
		{"a part of 1000", []string{long}, long, impl.OK},
		{"8 parts of 1000", repeated(8, long), strings.Repeat(long, 8), impl.OK},
		{"a part of 1001", []string{over}, "", impl.ErrSize},
		{"a part of 1001 last", append(repeated(7, long), over), "", impl.ErrSize},
		{"9 parts of 1001", repeated(9, over), "", impl.ErrSize},
		// A text within a list is bounded by chapter 5 alone.
		{"a part of MaxText", []string{huge[:impl.MaxText]}, "", impl.ErrSize},
		{"a part beyond MaxText", []string{"\x01", huge}, "", impl.ErrSize},
		{"9 parts beyond MaxText", repeated(9, huge), "", impl.ErrSize},
		{"MaxList parts", repeated(impl.MaxList, "\x01"), "", impl.ErrSize},
		{"MaxList parts of 1001", repeated(impl.MaxList, over), "", impl.ErrSize},
		{"beyond MaxList", repeated(impl.MaxList+1, "\x01"), "", impl.ErrLong},
		{"beyond MaxList, of 1001", repeated(impl.MaxList+1, over), "", impl.ErrLong},
		{"beyond MaxList, empty ones", repeated(impl.MaxList+1, ""), "", impl.ErrLong},
	} {
		if key, code := impl.JoinKeys(r.parts); key != r.want || code != r.code {
			t.Errorf("JoinKeys of %s: %d bytes, %d, not %d bytes, %d", r.what, len(key), code, len(r.want), r.code)
		}
	}
}
