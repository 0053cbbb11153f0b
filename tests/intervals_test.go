package tests

import (
	"fmt"
	"math/rand"
	"strings"
	"testing"

	"loop.example/g00380/impl"
)

func between(low, high string) impl.Interval { return impl.Interval{Low: low, High: high} }

func from(low string) impl.Interval { return impl.Interval{Low: low, Open: true} }

// openWith is an Open one that has a High all the same.
func openWith(low, high string) impl.Interval {
	return impl.Interval{Low: low, High: high, Open: true}
}

func shown(i impl.Interval) string { return fmt.Sprintf("{%q %q %v}", i.Low, i.High, i.Open) }

type hasRow struct {
	i    impl.Interval
	key  string
	want bool
}

func TestP5IntervalHas(t *testing.T) {
	for _, r := range []hasRow{
		{between("b", "d"), "b", true},
		{between("b", "d"), "b\x00", true},
		{between("b", "d"), "a", false},
		{between("b", "d"), "a\xff\xff", false},
		{between("b", "d"), "", false},
		{between("b", "d"), "c", true},
		{between("b", "d"), "c\xff\xff\xff", true},
		{between("b", "d"), "d", false},
		{between("b", "d"), "d\x00", false},
		{between("b", "d"), "e", false},
		{between("b\x00", "b\x01"), "b", false},
		{between("b\x00", "b\x01"), "b\x00", true},
		{between("b\x00", "b\x01"), "b\x00\xff", true},
		{between("b\x00", "b\x01"), "b\x01", false},
		{between("", "a"), "", true},
		{between("", "a"), "\x00", true},
		{between("", ""), "", false},
		{between("", ""), "\x00", false},
		{between("b", "b"), "b", false},
		{between("d", "b"), "b", false},
		{between("d", "b"), "c", false},
		{between("d", "b"), "d", false},
		{between("b", ""), "b", false},
		{between("b", ""), "c", false},
		{from(""), "", true},
		{from(""), "\xff\xff", true},
		{from("b"), "a\xff", false},
		{from("b"), "b", true},
		{from("b"), "z", true},
		{from("\xff"), "\xfe\xff", false},
		{from("\xff"), "\xff\xff", true},
		{openWith("b", "c"), "c", true},
		{openWith("b", "c"), "d", true},
		{openWith("b", "c"), "a", false},
		{openWith("b", "a"), "b", true},
		{openWith("b", "\xff"), "\xff\xff", true},
	} {
		if got := impl.IntervalHas(r.i, r.key); got != r.want {
			t.Errorf("IntervalHas(%s, %q) = %v", shown(r.i), r.key, got)
		}
	}
}

func TestP5IntervalHasNoLongKeys(t *testing.T) {
	long := strings.Repeat("k", impl.MaxText)
	for _, i := range []impl.Interval{from(""), from("k"), between("", "z"), openWith("", "a"), from(long), between(long, "z"), between("", long+"kk")} {
		if has := impl.IntervalHas(i, long); !has {
			t.Errorf("an interval from %.9q on to %.9q has not a key of MaxText bytes", i.Low, i.High)
		}
		if impl.IntervalHas(i, long+"k") {
			t.Errorf("an interval from %.9q on to %.9q has a key of more than MaxText bytes", i.Low, i.High)
		}
	}
	// What stands within a struct is not bounded.
	if impl.IntervalHas(between(long+"k", "z"), long) || !impl.IntervalHas(between(long[1:], long+"k"), long) {
		t.Error("a long Low or High doesn't count")
	}
}

func TestP5MeetIntervals(t *testing.T) {
	rows := []struct{ a, b, want impl.Interval }{
		{between("b", "d"), between("c", "e"), between("c", "d")},
		{between("b", "e"), between("c", "d"), between("c", "d")},
		{between("b", "c"), between("d", "e"), between("d", "c")},
		{between("b", "c"), between("b", "c"), between("b", "c")},
		{between("b", "c"), between("", ""), between("b", "")},
		{between("b", "b\x00"), between("b", "b"), between("b", "b")},
		{from("b"), between("", "e"), between("b", "e")},
		{from("b"), between("c", "e"), between("c", "e")},
		{openWith("b", "a"), between("c", "e"), between("c", "e")},
		{openWith("b", "z"), between("a", ""), between("b", "")},
		{from("b"), from("c"), from("c")},
		{openWith("b", "x"), openWith("a", "y"), from("b")},
		{openWith("b", "x"), openWith("b", "x"), from("b")},
		{impl.Interval{}, impl.Interval{}, impl.Interval{}},
		{from(""), from(""), from("")},
		{between("\xff", "\xff\xff"), between("\xff\x00", "\xff\xfe"), between("\xff\x00", "\xff\xfe")},
	}
	for _, r := range rows {
		if got := impl.MeetIntervals(r.a, r.b); got != r.want {
			t.Errorf("MeetIntervals(%s, %s) = %s, not %s", shown(r.a), shown(r.b), shown(got), shown(r.want))
		}
		if got := impl.MeetIntervals(r.b, r.a); got != r.want {
			t.Errorf("MeetIntervals(%s, %s) = %s, not %s", shown(r.b), shown(r.a), shown(got), shown(r.want))
		}
	}
	// Texts within a struct are not bounded.
	long := strings.Repeat("k", impl.MaxText+1)
	if got := impl.MeetIntervals(between(long, long+"k"), openWith("a", "")); got != between(long, long+"k") {
		t.Errorf("MeetIntervals of long texts: %d, %d bytes", len(got.Low), len(got.High))
	}
}

// What a meeting has is what both have, of all pairs over a few texts.
func TestP5MeetingHasWhatBothHave(t *testing.T) {
	texts := []string{"", "\x00", "a", "a\x00", "a\xff", "b", "\xff"}
	var list []impl.Interval
	for _, low := range texts {
		for _, high := range texts {
			list = append(list, between(low, high), openWith(low, high))
		}
	}
	keys := append([]string{"\x00\x00", "A", "a\x00\x00", "a\xff\x00", "a\xff\xff", "c", "\xff\xff"}, texts...)
	for _, a := range list {
		for _, b := range list {
			both := impl.MeetIntervals(a, b)
			if both.Open != (a.Open && b.Open) || both.Open && both.High != "" {
				t.Fatalf("MeetIntervals(%s, %s) = %s", shown(a), shown(b), shown(both))
			}
			for _, key := range keys {
				if impl.IntervalHas(both, key) != (impl.IntervalHas(a, key) && impl.IntervalHas(b, key)) {
					t.Fatalf("MeetIntervals(%s, %s) = %s, asked for %q", shown(a), shown(b), shown(both), key)
				}
			}
		}
	}
}

func hasInterval(t *testing.T, x impl.Term, desc bool, want impl.Interval) {
	t.Helper()
	if got, code := impl.TermInterval(x, desc); got != want || code != impl.OK {
		t.Errorf("TermInterval of %s %v, %v: %s, %d, not %s", termNames[x.Op], x.Value, desc, shown(got), code, shown(want))
	}
}

type cutRow struct {
	v impl.Value
	// Where what begins with the key ends, rising and falling.
	behind, down string
}

// Keys whose last bytes are 255 end where a shorter text begins.
func cutRows(t *testing.T) []cutRow {
	return []cutRow{
		{impl.Value{}, "\x02", "\xff"},
		{boolOf(0), "\x02\x01", "\xfe"},
		{boolOf(1), "\x02\x02", "\xfd\xff"},
		{intOf(0), "\x03\x40\x00\x00\x00\x00\x00\x00\x01", "\xfc\xc0"},
		{intOf(-1), "\x03\x40", "\xfc\xc0\x00\x00\x00\x00\x00\x00\x01"},
		{intOf(255), "\x03\x40\x00\x00\x00\x00\x00\x01", "\xfc\xbf\xff\xff\xff\xff\xff\xff\x01"},
		{intOf(256), "\x03\x40\x00\x00\x00\x00\x00\x01\x01", "\xfc\xbf\xff\xff\xff\xff\xff\xff"},
		{intOf(65535), "\x03\x40\x00\x00\x00\x00\x01", "\xfc\xbf\xff\xff\xff\xff\xff\x00\x01"},
		{intOf(impl.MaxNumber), "\x03\x40\x00\x00\xe8\xd4\xa5\x10\x01", "\xfc\xbf\xff\xff\x17\x2b\x5a\xf0"},
		{intOf(-impl.MaxNumber), "\x03\x3f\xff\xff\x17\x2b\x5a\xf0\x01", "\xfc\xc0\x00\x00\xe8\xd4\xa5\x10"},
		{textOf(""), "\x04\x00\x01", "\xfc"},
		{textOf("\x00"), "\x04\x00\xff\x00\x01", "\xfb\xff\x01"},
		{textOf("a"), "\x04a\x00\x01", "\xfb\x9f"},
		{textOf("\xff"), "\x04\xff\x00\x01", "\xfb\x01"},
		{mustList(t), "\x05\x01", "\xfb"},
		{mustList(t, textOf("")), "\x05\x04\x00\x00\x01", "\xfa\xfc"},
		{mustList(t, mustList(t)), "\x05\x05\x00\x01", "\xfa\xfb"},
		{mustDoc(t), "\x06\x01", "\xfa"},
		{mustDoc(t, field("a", impl.Value{})), "\x06\x01a\x00\x00\x01\x01", "\xf9\xfe\x9e\xff\xff\xff"},
	}
}

func TestP5IntervalsOfCompared(t *testing.T) {
	for _, r := range cutRows(t) {
		first, next := string([]byte{byte(r.v.Kind) + 1}), string([]byte{byte(r.v.Kind) + 2})
		key := mustKey(t, r.v, false)
		hasInterval(t, term(impl.TeEq, "a", r.v), false, between(key, r.behind))
		hasInterval(t, term(impl.TeLt, "a", r.v), false, between(first, key))
		hasInterval(t, term(impl.TeLte, "a", r.v), false, between(first, r.behind))
		hasInterval(t, term(impl.TeGt, "a", r.v), false, between(r.behind, next))
		hasInterval(t, term(impl.TeGte, "a", r.v), false, between(key, next))

		first, next = string([]byte{254 - byte(r.v.Kind)}), string([]byte{255 - byte(r.v.Kind)})
		key = mustKey(t, r.v, true)
		hasInterval(t, term(impl.TeEq, "a", r.v), true, between(key, r.down))
		hasInterval(t, term(impl.TeLt, "a", r.v), true, between(r.down, next))
		hasInterval(t, term(impl.TeLte, "a", r.v), true, between(key, next))
		hasInterval(t, term(impl.TeGt, "a", r.v), true, between(first, key))
		hasInterval(t, term(impl.TeGte, "a", r.v), true, between(first, r.down))
	}
}

func TestP5IntervalsOfKinds(t *testing.T) {
	for kind, want := range []impl.Interval{between("\x01", "\x02"), between("\x02", "\x03"), between("\x03", "\x04"),
		between("\x04", "\x05"), between("\x05", "\x06"), between("\x06", "\x07")} {
		hasInterval(t, term(impl.TeType, "a", intOf(kind)), false, want)
	}
	for kind, want := range []impl.Interval{between("\xfe", "\xff"), between("\xfd", "\xfe"), between("\xfc", "\xfd"),
		between("\xfb", "\xfc"), between("\xfa", "\xfb"), between("\xf9", "\xfa")} {
		hasInterval(t, term(impl.TeType, "a", intOf(kind)), true, want)
	}
}

func TestP5IntervalsOfOthers(t *testing.T) {
	for _, op := range []int{impl.TeNe, impl.TeIn, impl.TeExists, impl.TeSize} {
		for _, v := range edgeValues() {
			if takes(op, v) {
				hasInterval(t, term(op, "a.b", v), false, from(""))
				hasInterval(t, term(op, "a.b", v), true, from(""))
			}
		}
	}
	// The items that TeIn asks for cut nothing, not even one alone.
	hasInterval(t, term(impl.TeIn, "a", mustList(t, intOf(1))), false, from(""))
}

func TestP5IntervalsOfWrongTerms(t *testing.T) {
	wrong := []impl.Term{{}, term(0, "a", intOf(1)), term(11, "a", intOf(1)), term(-1, "a", intOf(1)), term(256+impl.TeEq, "a", intOf(1)),
		term(impl.TeIn, "a", intOf(1)), term(impl.TeIn, "a", mustDoc(t)), term(impl.TeExists, "a", intOf(1)), term(impl.TeExists, "a", impl.Value{}),
		term(impl.TeType, "a", intOf(-1)), term(impl.TeType, "a", intOf(6)), term(impl.TeType, "a", boolOf(1)), term(impl.TeType, "a", textOf("")),
		term(impl.TeSize, "a", intOf(-1)), term(impl.TeSize, "a", mustList(t))}
	for _, op := range allTerms {
		for _, path := range []string{"", "a.", "9", "a.b.c.d.e", strings.Repeat("n", 13), strings.Repeat("n", impl.MaxText+1)} {
			wrong = append(wrong, term(op, path, termValue(op)))
		}
		for _, v := range wrongValues() {
			wrong = append(wrong, term(op, "a", v))
		}
	}
	for _, x := range wrong {
		for _, desc := range []bool{false, true} {
			if i, code := impl.TermInterval(x, desc); i != (impl.Interval{}) || code != impl.ErrBad {
				t.Errorf("TermInterval of Op %d with %.60q: %s, %d", x.Op, x.Value.T, shown(i), code)
			}
		}
	}
}

// valueLets is chapter 4's word on one value that a term's path comes to, of the Ops that cut.
func valueLets(op int, x, v node) bool {
	c, same := x.order(v), x.kind == v.kind
	switch op {
	case impl.TeLt:
		return same && c < 0
	case impl.TeLte:
		return same && c <= 0
	case impl.TeGt:
		return same && c > 0
	case impl.TeGte:
		return same && c >= 0
	case impl.TeType:
		return x.kind == v.n
	}
	return c == 0
}

// An interval of these Ops has the keys of the values that the term lets in, whatever stands
// behind them, and no other values' keys.
func TestP5IntervalsHaveJustWhatIsLetIn(t *testing.T) {
	nodes := append(randomNodes(59, 120), closeNodes()...)
	keys, falls := make([]string, len(nodes)), make([]string, len(nodes))
	for i, x := range nodes {
		keys[i], falls[i] = mustKey(t, x.value(), false), mustKey(t, x.value(), true)
	}
	r := rand.New(rand.NewSource(60))
	tails := []string{"", "\x00", "\x01", "\xff", "\xff\xff\xff\xff\xff\xff\xff\xff\xff\xff", mustKey(t, intOf(5), false), mustKey(t, intOf(5), true)}
	for _, op := range []int{impl.TeEq, impl.TeLt, impl.TeLte, impl.TeGt, impl.TeGte, impl.TeType} {
		for i, v := range nodes {
			if op == impl.TeType {
				v = node{kind: impl.VaInt, n: i % 6}
			}
			up, code := impl.TermInterval(term(op, "a", v.value()), false)
			down, c := impl.TermInterval(term(op, "a", v.value()), true)
			if code != impl.OK || c != impl.OK {
				t.Fatalf("TermInterval of %s %v: %d, %d", termNames[op], v, code, c)
			}
			for j, x := range nodes {
				want, tail := valueLets(op, x, v), pick(r, tails)
				if impl.IntervalHas(up, keys[j]+tail) != want || impl.IntervalHas(down, falls[j]+tail) != want {
					t.Fatalf("TermInterval of %s %v: %s, falling %s; has it %v? not %v", termNames[op], v, shown(up), shown(down), x, want)
				}
			}
		}
	}
}

// Whatever document a term lets in, its interval has a key of what the path comes to, or null's.
func TestP5IntervalsHaveAKeyOfEachLetIn(t *testing.T) {
	r := rand.New(rand.NewSource(61))
	var seen [11]int
	for _, x := range randomDocs(62, 3000) {
		for range 12 {
			y, v := randomTerm(r, x)
			if !x.lets(y.Op, y.Path, v) {
				continue
			}
			seen[y.Op]++
			found, code := impl.GetPath(x.value(), y.Path)
			if code != impl.OK {
				t.Fatalf("GetPath of %s on %v: %d", y.Path, x, code)
			}
			if len(found) == 0 {
				found = []impl.Value{{}}
			}
			for _, desc := range []bool{false, true} {
				i, code := impl.TermInterval(y, desc)
				some := false
				for _, w := range found {
					some = some || impl.IntervalHas(i, mustKey(t, w, desc))
				}
				if !some || code != impl.OK {
					t.Errorf("%s %s %v lets in %v, but %s, %v, has no key of it: %d", y.Path, termNames[y.Op], v, x, shown(i), desc, code)
				}
			}
		}
	}
	for _, op := range allTerms {
		if seen[op] < 100 {
			t.Errorf("%s let in %d documents only", termNames[op], seen[op])
		}
	}
}
