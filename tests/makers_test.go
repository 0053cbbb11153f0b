package tests

import (
	"fmt"
	"strings"
	"testing"

	"loop.example/g00380/impl"
)

type listRow struct {
	what  string
	items []impl.Value
	code  int
}

func copies(n int, v impl.Value) []impl.Value {
	items := make([]impl.Value, n)
	for i := range items {
		items[i] = v
	}
	return items
}

func TestP2ListCodes(t *testing.T) {
	bad, deep := boolOf(2), nested(5, impl.VaDoc)
	rows := []listRow{
		{"none", nil, impl.OK},
		{"an empty one", []impl.Value{}, impl.OK},
		{"MaxBody nulls", make([]impl.Value, impl.MaxBody), impl.OK},
		{"one more", make([]impl.Value, impl.MaxBody+1), impl.ErrSize},
		{"one more, all bad", copies(impl.MaxBody+1, bad), impl.ErrSize},
		{"MaxList, all bad", copies(impl.MaxList, bad), impl.ErrSize},
		{"beyond MaxList", make([]impl.Value, impl.MaxList+1), impl.ErrLong},
		{"beyond MaxList, all bad", copies(impl.MaxList+1, bad), impl.ErrLong},
		{"bad behind too great a body", []impl.Value{textOfLength(300), bad}, impl.ErrBad},
		{"bad behind too deep a one", []impl.Value{deep, bad}, impl.ErrBad},
		{"bad ahead", []impl.Value{bad, deep, textOfLength(300)}, impl.ErrBad},
		{"too deep and too great", []impl.Value{deep, textOfLength(300)}, impl.ErrSize},
		{"too deep", []impl.Value{{}, deep}, impl.ErrDeep},
		{"just deep enough", []impl.Value{{}, nested(4, impl.VaDoc)}, impl.OK},
		{"a body of 300", []impl.Value{textOfLength(297)}, impl.OK},
		{"a body of 301", []impl.Value{textOfLength(298)}, impl.ErrSize},
		{"a body of 300 by two", []impl.Value{textOfLength(293), {}, textOfLength(0)}, impl.OK},
		{"a body of 301 by two", []impl.Value{textOfLength(293), boolOf(1), textOfLength(0)}, impl.ErrSize},
		{"too long a text", []impl.Value{textOfLength(301)}, impl.ErrBad},
	}
	for _, r := range rows {
		v, code := impl.ListOf(r.items)
		if code != r.code || code != impl.OK && v != (impl.Value{}) {
			t.Errorf("ListOf, %s: %v, %d, not %d", r.what, v, code, r.code)
		}
		if code == impl.OK && (v.Kind != impl.VaList || !impl.ValueOK(v)) {
			t.Errorf("ListOf, %s: %v is not right", r.what, v)
		}
	}
}

type docRow struct {
	what   string
	fields []impl.Field
	code   int
}

func manyFields(n int, v impl.Value) []impl.Field {
	fields := make([]impl.Field, n)
	for i := range fields {
		fields[i] = field(fmt.Sprintf("n%d", i), v)
	}
	return fields
}

func docRows() []docRow {
	bad, deep := boolOf(2), nested(5, impl.VaList)
	a, z := field("a", intOf(1)), field("z", impl.Value{})
	return []docRow{
		{"none", nil, impl.OK},
		{"an empty one", []impl.Field{}, impl.OK},
		{"MaxBody fields", manyFields(impl.MaxBody, impl.Value{}), impl.ErrSize},
		{"one more, without names", make([]impl.Field, impl.MaxBody+1), impl.ErrSize},
		{"MaxBody without names", make([]impl.Field, impl.MaxBody), impl.ErrName},
		{"MaxList, all bad", manyFields(impl.MaxList, bad), impl.ErrSize},
		{"beyond MaxList", manyFields(impl.MaxList+1, bad), impl.ErrLong},
		{"an empty name", []impl.Field{field("", intOf(1))}, impl.ErrName},
		{"a name of 12", []impl.Field{field(strings.Repeat("n", 12), intOf(1))}, impl.OK},
		{"a name of 13", []impl.Field{field(strings.Repeat("n", 13), intOf(1))}, impl.ErrName},
		{"a name of MaxName", []impl.Field{field(strings.Repeat("n", impl.MaxName), intOf(1))}, impl.ErrName},
		{"a name beyond MaxText", []impl.Field{field(strings.Repeat("n", impl.MaxText+1), intOf(1))}, impl.ErrName},
		{"a name with a point", []impl.Field{field("a.b", intOf(1))}, impl.ErrName},
		{"no name and bad", []impl.Field{field("9", bad)}, impl.ErrName},
		{"bad, then no name", []impl.Field{field("a", bad), field("9", bad)}, impl.ErrBad},
		{"no name, then bad", []impl.Field{field("9", intOf(1)), field("a", bad)}, impl.ErrName},
		{"twice", []impl.Field{a, z, a}, impl.ErrTwice},
		{"twice, then no name", []impl.Field{z, a, a, field("9", bad)}, impl.ErrTwice},
		{"twice, then bad", []impl.Field{z, a, a, field("b", bad)}, impl.ErrTwice},
		{"twice and bad", []impl.Field{a, field("a", bad)}, impl.ErrBad},
		{"bad, then twice", []impl.Field{a, field("b", bad), a}, impl.ErrBad},
		{"twice behind too great a body", []impl.Field{field("b", textOfLength(300)), a, a}, impl.ErrTwice},
		{"bad behind too deep a one", []impl.Field{field("b", deep), field("c", bad)}, impl.ErrBad},
		{"too deep and too great", []impl.Field{field("b", deep), field("c", textOfLength(300))}, impl.ErrSize},
		{"too deep", []impl.Field{a, field("b", deep)}, impl.ErrDeep},
		{"just deep enough", []impl.Field{field("b", nested(4, impl.VaList)), a}, impl.OK},
		{"a body of 300", []impl.Field{field("a", textOfLength(295))}, impl.OK},
		{"a body of 301", []impl.Field{field("a", textOfLength(296))}, impl.ErrSize},
		{"a body of 301 by the name", []impl.Field{field("ab", textOfLength(295))}, impl.ErrSize},
	}
}

func TestP2DocCodes(t *testing.T) {
	for _, r := range docRows() {
		v, code := impl.DocOf(r.fields)
		if code != r.code || code != impl.OK && v != (impl.Value{}) {
			t.Errorf("DocOf, %s: %v, %d, not %d", r.what, v, code, r.code)
		}
		if code == impl.OK && (v.Kind != impl.VaDoc || !impl.ValueOK(v)) {
			t.Errorf("DocOf, %s: %v is not right", r.what, v)
		}
	}
}

func TestP2DocFieldsInAnyOrder(t *testing.T) {
	a, b, c := field("A", intOf(1)), field("_", intOf(2)), field("a", intOf(3))
	want := mustDoc(t, a, b, c)
	for _, fields := range [][]impl.Field{{a, c, b}, {b, a, c}, {b, c, a}, {c, a, b}, {c, b, a}} {
		if v, code := impl.DocOf(fields); v != want || code != impl.OK {
			t.Errorf("DocOf(%v) = %v, %d", fields, v, code)
		}
	}
	got, code := impl.FieldsOf(want)
	if code != impl.OK || len(got) != 3 || got[0] != a || got[1] != b || got[2] != c {
		t.Errorf("FieldsOf = %v, %d", got, code)
	}
}

func TestP2PartsOfOtherKinds(t *testing.T) {
	for name, v := range edgeValues() {
		items, code := impl.ItemsOf(v)
		if (code == impl.OK) != (v.Kind == impl.VaList) || code != impl.OK && (code != impl.ErrType || len(items) != 0) {
			t.Errorf("%s: ItemsOf = %v, %d", name, items, code)
		}
		fields, code := impl.FieldsOf(v)
		if (code == impl.OK) != (v.Kind == impl.VaDoc) || code != impl.OK && (code != impl.ErrType || len(fields) != 0) {
			t.Errorf("%s: FieldsOf = %v, %d", name, fields, code)
		}
	}
}
