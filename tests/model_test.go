package tests

import (
	"encoding/binary"
	"fmt"
	"math/rand"
	"sort"
	"strings"
	"testing"

	"loop.example/g00380/impl"
)

// A node is a value as a tree: what the tests hold the program's bodies of bytes against.
type node struct {
	kind, n int
	text    string
	names   []string
	items   []node
}

func (x node) bytes() []byte {
	b := []byte{byte(x.kind)}
	switch x.kind {
	case impl.VaNull:
		return b
	case impl.VaBool:
		return append(b, byte(x.n))
	case impl.VaInt:
		return binary.BigEndian.AppendUint64(b, uint64(int64(x.n)+1<<62))
	}
	body := x.body()
	return append(binary.BigEndian.AppendUint16(b, uint16(len(body))), body...)
}

func (x node) body() string {
	if x.kind < impl.VaList {
		return x.text
	}
	var b strings.Builder
	for i, item := range x.items {
		if x.kind == impl.VaDoc {
			b.WriteByte(byte(len(x.names[i])))
			b.WriteString(x.names[i])
		}
		b.Write(item.bytes())
	}
	return b.String()
}

func (x node) value() impl.Value {
	return impl.Value{Kind: x.kind, N: x.n, T: x.body()}
}

func (x node) depth() int {
	if x.kind < impl.VaList {
		return 0
	}
	d := 0
	for _, item := range x.items {
		d = max(d, item.depth())
	}
	return d + 1
}

func (x node) String() string {
	switch x.kind {
	case impl.VaNull:
		return "null"
	case impl.VaBool:
		return fmt.Sprint(x.n == 1)
	case impl.VaInt:
		return fmt.Sprint(x.n)
	case impl.VaText:
		return "'" + x.text + "'"
	}
	var parts []string
	for i, item := range x.items {
		if x.kind == impl.VaDoc {
			parts = append(parts, x.names[i]+":"+item.String())
		} else {
			parts = append(parts, item.String())
		}
	}
	if x.kind == impl.VaDoc {
		return "{" + strings.Join(parts, ",") + "}"
	}
	return "[" + strings.Join(parts, ",") + "]"
}

func sign(less, more bool) int {
	if less {
		return -1
	}
	if more {
		return 1
	}
	return 0
}

func (x node) order(y node) int {
	if x.kind != y.kind {
		return sign(x.kind < y.kind, true)
	}
	if x.n != y.n {
		return sign(x.n < y.n, true)
	}
	if x.text != y.text {
		return sign(x.text < y.text, true)
	}
	for i := 0; i < len(x.items) && i < len(y.items); i++ {
		if x.kind == impl.VaDoc && x.names[i] != y.names[i] {
			return sign(x.names[i] < y.names[i], true)
		}
		if c := x.items[i].order(y.items[i]); c != 0 {
			return c
		}
	}
	return sign(len(x.items) < len(y.items), len(x.items) > len(y.items))
}

// fits asks whether every body of the tree is short enough to be one of a right value.
func (x node) fits() bool {
	for _, item := range x.items {
		if !item.fits() {
			return false
		}
	}
	return len(x.body()) <= impl.MaxBody
}

func randomLeaf(r *rand.Rand) node {
	numbers := []int{0, 1, -1, 2, 255, 256, -256, 65536, impl.MaxNumber, -impl.MaxNumber}
	texts := []string{"", "a", "b", "ab", "a\x00", "\x00", "\xff", "'", "a'b", "\xc3\xa9", "thirteenchars"}
	switch r.Intn(5) {
	case 0:
		return node{kind: impl.VaNull}
	case 1:
		return node{kind: impl.VaBool, n: r.Intn(2)}
	case 2:
		return node{kind: impl.VaInt, n: numbers[r.Intn(len(numbers))]}
	case 3:
		return node{kind: impl.VaInt, n: r.Intn(2*impl.MaxNumber+1) - impl.MaxNumber}
	}
	return node{kind: impl.VaText, text: texts[r.Intn(len(texts))]}
}

func randomNames(r *rand.Rand, n int) []string {
	names := []string{"a", "b", "ab", "id", "_", "Z9", "twelve_bytes", "A", "a0", "aa"}
	r.Shuffle(len(names), func(i, j int) { names[i], names[j] = names[j], names[i] })
	names = names[:n]
	sort.Strings(names)
	return names
}

func randomNode(r *rand.Rand, room int) node {
	if room == 0 || r.Intn(3) == 0 {
		return randomLeaf(r)
	}
	x := node{kind: impl.VaList}
	n := r.Intn(4)
	if r.Intn(2) == 0 {
		x.kind, x.names = impl.VaDoc, randomNames(r, n)
	}
	for range n {
		x.items = append(x.items, randomNode(r, room-1))
	}
	return x
}

// randomNodes are right ones, the same in every run.
func randomNodes(seed int64, n int) []node {
	r := rand.New(rand.NewSource(seed))
	var list []node
	for len(list) < n {
		if x := randomNode(r, impl.MaxDeep); x.fits() {
			list = append(list, x)
		}
	}
	return list
}

func intOf(n int) impl.Value { return impl.Value{Kind: impl.VaInt, N: n} }

func boolOf(n int) impl.Value { return impl.Value{Kind: impl.VaBool, N: n} }

func textOf(s string) impl.Value { return impl.Value{Kind: impl.VaText, T: s} }

func textOfLength(n int) impl.Value { return textOf(strings.Repeat("x", n)) }

func mustList(t *testing.T, items ...impl.Value) impl.Value {
	t.Helper()
	v, code := impl.ListOf(items)
	if code != impl.OK {
		t.Fatalf("ListOf(%v): code %d", items, code)
	}
	return v
}

func mustDoc(t *testing.T, fields ...impl.Field) impl.Value {
	t.Helper()
	v, code := impl.DocOf(fields)
	if code != impl.OK {
		t.Fatalf("DocOf(%v): code %d", fields, code)
	}
	return v
}

func field(name string, v impl.Value) impl.Field { return impl.Field{Name: name, Value: v} }

// raw is a list or document of that body, right or not.
func raw(kind int, body string) impl.Value { return impl.Value{Kind: kind, T: body} }

// rawBytes are what a value's bytes would be, right or not.
func rawBytes(v impl.Value) []byte {
	if v.Kind < impl.VaText {
		return node{kind: v.Kind, n: v.N}.bytes()
	}
	b := binary.BigEndian.AppendUint16([]byte{byte(v.Kind)}, uint16(len(v.T)))
	return append(b, v.T...)
}

// nested is made of so many lists and documents one in another (kinds, turn by turn), right or not.
func nested(depth int, kinds ...int) impl.Value {
	v := impl.Value{}
	for i := range depth {
		kind := kinds[i%len(kinds)]
		body := string(rawBytes(v))
		if kind == impl.VaDoc {
			body = "\x01a" + body
		}
		v = raw(kind, body)
	}
	return v
}
