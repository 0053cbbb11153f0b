package tests

import (
	"testing"

	"loop.example/g00380/impl"
)

// risingValues are of all kinds and one in another, each behind the one ahead of it.
func risingValues(t *testing.T) []impl.Value {
	one, two, a := intOf(1), intOf(2), textOf("a")
	return []impl.Value{
		{},
		boolOf(0),
		boolOf(1),
		intOf(-impl.MaxNumber),
		intOf(-1),
		intOf(0),
		intOf(1),
		intOf(256),
		intOf(impl.MaxNumber),
		textOf(""),
		textOf("\x00"),
		textOf("B"),
		textOf("a"),
		textOf("a\x00"),
		textOf("aa"),
		textOf("b"),
		textOf("\xff"),
		mustList(t),
		mustList(t, impl.Value{}),
		mustList(t, boolOf(1), textOf("z")),
		mustList(t, one),
		mustList(t, one, intOf(-5)),
		mustList(t, one, one, one),
		mustList(t, one, two),
		mustList(t, two),
		// Their bodies' bytes would say the other way round: lengths stand ahead of texts there.
		mustList(t, textOf("aa")),
		mustList(t, textOf("b")),
		mustList(t, mustList(t)),
		mustList(t, mustList(t, one, one)),
		mustList(t, mustList(t, two)),
		mustList(t, mustDoc(t)),
		mustDoc(t),
		mustDoc(t, field("a", impl.Value{})),
		mustDoc(t, field("a", one)),
		mustDoc(t, field("a", one), field("b", one)),
		mustDoc(t, field("a", one), field("c", impl.Value{})),
		mustDoc(t, field("a", two)),
		mustDoc(t, field("a", mustDoc(t, field("x", a)))),
		mustDoc(t, field("a", mustDoc(t, field("x", a), field("y", a)))),
		mustDoc(t, field("aa", impl.Value{})),
		mustDoc(t, field("b", impl.Value{})),
	}
}

func TestP2Order(t *testing.T) {
	list := risingValues(t)
	for i, a := range list {
		for j, b := range list {
			want := sign(i < j, i > j)
			if k, code := impl.OrderValues(a, b); k != want || code != impl.OK {
				t.Errorf("OrderValues(%v, %v) = %d, %d, not %d", a, b, k, code, want)
			}
		}
	}
}

func TestP2RandomOrder(t *testing.T) {
	list := randomNodes(2, 250)
	for _, x := range list {
		for _, y := range list {
			k, code := impl.OrderValues(x.value(), y.value())
			if k != x.order(y) || code != impl.OK {
				t.Fatalf("OrderValues of %v and %v = %d, %d", x, y, k, code)
			}
			back, _ := impl.OrderValues(y.value(), x.value())
			if back != -k || (k == 0) != (x.value() == y.value()) {
				t.Fatalf("OrderValues of %v and %v = %d, and back %d", x, y, k, back)
			}
		}
	}
}

func TestP2OrderOfAlikes(t *testing.T) {
	for name, v := range edgeValues() {
		if k, code := impl.OrderValues(v, v); k != 0 || code != impl.OK {
			t.Errorf("%s: OrderValues = %d, %d", name, k, code)
		}
	}
}
