package tests

import (
	"math/rand"
	"strings"
	"testing"

	"loop.example/g00380/impl"
)

// all is the interval that says nothing.
func all() impl.Interval { return from("") }

func spanIs(t *testing.T, f impl.Filter, path string, want impl.Interval) {
	t.Helper()
	if i, code := impl.FilterInterval(f, parts(path)[0]); i != want || code != impl.OK {
		t.Errorf("FilterInterval of %v for %s: %s, %d, not %s", f, path, shown(i), code, shown(want))
	}
}

// keyed is the key of a number, and behind the least text behind all that begin with it.
func keyed(n int, desc bool) (key, behind string) {
	key = num(n).directedKey(desc)
	return key, key[:len(key)-1] + string([]byte{key[len(key)-1] + 1})
}

func TestP8SpanOfOneTerm(t *testing.T) {
	five, behindFive := keyed(5, false)
	down, behindDown := keyed(5, true)
	for _, r := range []struct {
		op            int
		v             impl.Value
		rising, falls impl.Interval
	}{
		{impl.TeEq, intOf(5), between(five, behindFive), between(down, behindDown)},
		{impl.TeLt, intOf(5), between("\x03", five), between(behindDown, "\xfd")},
		{impl.TeLte, intOf(5), between("\x03", behindFive), between(down, "\xfd")},
		{impl.TeGt, intOf(5), between(behindFive, "\x04"), between("\xfc", down)},
		{impl.TeGte, intOf(5), between(five, "\x04"), between("\xfc", behindDown)},
		{impl.TeType, intOf(impl.VaText), between("\x04", "\x05"), between("\xfb", "\xfc")},
		{impl.TeEq, impl.Value{}, between("\x01", "\x02"), between("\xfe", "\xff")},
		{impl.TeLt, impl.Value{}, between("\x01", "\x01"), between("\xff", "\xff")},
		{impl.TeGt, impl.Value{}, between("\x02", "\x02"), between("\xfe", "\xfe")},
		{impl.TeNe, intOf(5), all(), all()},
		{impl.TeIn, raw(impl.VaList, string(rawBytes(intOf(5)))), all(), all()},
		{impl.TeExists, boolOf(1), all(), all()},
		{impl.TeSize, intOf(2), all(), all()},
	} {
		for path, want := range map[string]impl.Interval{"a": r.rising, "-a": r.falls, "b": all(), "-b": all(), "a.b": all(), "-aa": all(), "A": all()} {
			spanIs(t, where(term(r.op, "a", r.v)), path, want)
		}
		spanIs(t, where(term(r.op, "a.b", r.v)), "a.b", r.rising)
		spanIs(t, where(term(r.op, "a.b", r.v)), "-a.b", r.falls)
		spanIs(t, where(term(r.op, "a.b", r.v)), "a", all())
		spanIs(t, where(term(r.op, "a.b", r.v)), "b", all())
	}
}

// Of a clause it is the first term on the path that counts, if it says something at all.
func TestP8SpanOfOneClause(t *testing.T) {
	five, behindFive := keyed(5, false)
	eq, lt, gt := term(impl.TeEq, "a", intOf(5)), term(impl.TeLt, "a", intOf(5)), term(impl.TeGt, "a", intOf(5))
	ne, in, size := term(impl.TeNe, "a", intOf(5)), term(impl.TeIn, "a", raw(impl.VaList, "")), term(impl.TeSize, "a", intOf(5))
	there, other := term(impl.TeExists, "a", boolOf(1)), term(impl.TeEq, "b", intOf(5))
	only, less, more := between(five, behindFive), between("\x03", five), between(behindFive, "\x04")
	for _, r := range []struct {
		f    impl.Filter
		want impl.Interval
	}{
		{everything(), all()},
		{where(other), all()},
		{where(other, ne), all()},
		{where(ne, in, size, there), all()},
		{where(eq, lt), only},
		{where(lt, eq), less},
		{where(gt, lt), more},
		{where(lt, gt), less},
		{where(gt, lt, eq), more},
		{where(ne, gt), more},
		{where(ne, gt, lt), more},
		{where(ne, in, size, lt), less},
		{where(there, other, lt, gt), less},
		{where(other, gt, lt), more},
		{where(other, other, other, eq), only},
		{where(eq, eq), only},
		{where(eq, ne), only},
	} {
		spanIs(t, r.f, "a", r.want)
	}
}

func TestP8SpanOfSeveralClauses(t *testing.T) {
	three, behindThree := keyed(3, false)
	seven, behindSeven := keyed(7, false)
	eq := func(n int) impl.Clause { return clause(term(impl.TeEq, "a", intOf(n))) }
	lt := func(n int) impl.Clause { return clause(term(impl.TeLt, "a", intOf(n))) }
	gt := func(n int) impl.Clause { return clause(term(impl.TeGt, "a", intOf(n))) }
	text, null := clause(term(impl.TeGte, "a", textOf("x"))), clause(term(impl.TeEq, "a", impl.Value{}))
	for _, r := range []struct {
		f    impl.Filter
		want impl.Interval
	}{
		{filter(eq(3), eq(7)), between(three, behindSeven)},
		{filter(eq(7), eq(3)), between(three, behindSeven)},
		{filter(eq(5), eq(7), eq(3)), between(three, behindSeven)},
		{filter(eq(7), eq(5), eq(3)), between(three, behindSeven)},
		{filter(eq(3), eq(3)), between(three, behindThree)},
		{filter(lt(3), gt(7)), between("\x03", "\x04")},
		{filter(gt(7), lt(3)), between("\x03", "\x04")},
		{filter(gt(3), lt(7)), between("\x03", "\x04")},
		{filter(lt(3), lt(7)), between("\x03", seven)},
		{filter(gt(7), gt(3)), between(behindThree, "\x04")},
		{filter(gt(7), eq(3)), between(three, "\x04")},
		{filter(lt(3), eq(7)), between("\x03", behindSeven)},
		{filter(null, text), between("\x01", "\x05")},
		{filter(text, eq(3)), between(three, "\x05")},
		{filter(eq(3), clause(term(impl.TeLt, "a", impl.Value{}))), between("\x01", behindThree)},
		{filter(clause(term(impl.TeEq, "a", boolOf(0))), eq(3)), between("\x02\x00", behindThree)},
	} {
		spanIs(t, r.f, "a", r.want)
	}
	down, behindDown := keyed(7, true)
	low, behindLow := keyed(3, true)
	spanIs(t, filter(eq(3), eq(7)), "-a", between(down, behindLow))
	spanIs(t, filter(lt(3), eq(7)), "-a", between(down, "\xfd"))
	spanIs(t, filter(gt(7), eq(3)), "-a", between("\xfc", behindLow))
	spanIs(t, filter(gt(7), gt(3)), "-a", between("\xfc", low))
	spanIs(t, filter(lt(7), lt(3)), "-a", between(behindDown, "\xfd"))
}

// One clause that says nothing of the path, whatever else it says, leaves nothing said.
func TestP8SpanOfClausesThatSayNothing(t *testing.T) {
	eq, gt := clause(term(impl.TeEq, "a", intOf(5))), clause(term(impl.TeGt, "a", intOf(5)), term(impl.TeEq, "b", intOf(5)))
	for what, nothing := range map[string]impl.Clause{
		"no term":              clause(),
		"of another path":      clause(term(impl.TeEq, "b", intOf(5))),
		"of a path behind":     clause(term(impl.TeEq, "a.b", intOf(5))),
		"of all that it isn't": clause(term(impl.TeNe, "a", intOf(5))),
		"of what is there":     clause(term(impl.TeExists, "a", boolOf(1)), term(impl.TeLt, "b", intOf(5))),
		"of one of many":       clause(term(impl.TeIn, "a", raw(impl.VaList, string(rawBytes(intOf(5))))), term(impl.TeSize, "a", intOf(1))),
	} {
		for _, f := range []impl.Filter{filter(nothing), filter(nothing, eq), filter(eq, nothing), filter(eq, nothing, gt), filter(nothing, eq, gt), filter(eq, gt, nothing), filter(nothing, nothing), filter(nothing, gt, nothing)} {
			for _, path := range []string{"a", "-a"} {
				if i, code := impl.FilterInterval(f, parts(path)[0]); i != all() || code != impl.OK {
					t.Errorf("FilterInterval for %s, a clause %s: %s, %d", path, what, shown(i), code)
				}
			}
		}
	}
}

func TestP8SpanCodes(t *testing.T) {
	good := where(term(impl.TeEq, "a", intOf(5)))
	wrong := []impl.Filter{{}, where(term(0, "a", intOf(5))), where(term(impl.TeEq, "9", intOf(5))), where(term(impl.TeEq, "a", boolOf(5))), filter(clause(), clause(), clause(), clause()), filter(clause(), clause(term(11, "b", intOf(5))))}
	for _, f := range wrong {
		for _, path := range []string{"a", "-a", "", "9"} {
			if i, code := impl.FilterInterval(f, parts(path)[0]); i != (impl.Interval{}) || code != impl.ErrBad {
				t.Errorf("FilterInterval of %v for %s: %s, %d", f, path, shown(i), code)
			}
		}
	}
	for _, path := range []string{"", "-", ".", "a.", "9", "a b", "--a", "a.b.c.d.e", strings.Repeat("n", 13), strings.Repeat("n", impl.MaxText+1)} {
		if i, code := impl.FilterInterval(good, parts(path)[0]); i != (impl.Interval{}) || code != impl.ErrBad {
			t.Errorf("FilterInterval for %.60q: %s, %d", path, shown(i), code)
		}
	}
}

// spanned is chapter 8's word on a filter's interval.
func spanned(f impl.Filter, p impl.Part) impl.Interval {
	var lows, highs []string
	open := false
	for _, c := range f.Any {
		of := all()
		for k := len(c.Terms) - 1; k >= 0; k-- {
			if i, _ := impl.TermInterval(c.Terms[k], p.Desc); c.Terms[k].Path == p.Path && i != all() {
				of = i
			}
		}
		lows, highs, open = append(lows, of.Low), append(highs, of.High), open || of.Open
	}
	span := impl.Interval{Low: lows[0], Open: open}
	for i := range lows {
		if lows[i] < span.Low {
			span.Low = lows[i]
		}
		if !open && highs[i] > span.High {
			span.High = highs[i]
		}
	}
	return span
}

// A filter's interval has a key of each document that the filter lets in.
func TestP8SpansOfRandomFilters(t *testing.T) {
	r := rand.New(rand.NewSource(82))
	some, none := 0, 0
	for range 3000 {
		docs := poolOf(r, 6)
		f := poolFilter(r, docs)
		p := impl.Part{Path: pick(r, []string{"a", "b", "b.c", "id", "no"}), Desc: r.Intn(2) == 0}
		if said := f.Any[0].Terms; len(said) > 0 {
			p.Path = pick(r, said).Path
		}
		i, code := impl.FilterInterval(f, p)
		if i != spanned(f, p) || code != impl.OK {
			t.Errorf("FilterInterval of %v for %v: %s, %d, not %s", f, p, shown(i), code, shown(spanned(f, p)))
		}
		for _, x := range docs {
			has := false
			for _, key := range x.keysAt(p) {
				has = has || impl.IntervalHas(i, key)
			}
			if lets := letsIn(t, f, x.value()); lets && !has {
				t.Errorf("%v lets in %v, of which %s has no key", f, x, shown(i))
			} else if lets && i != all() {
				some++
			}
			if !has {
				none++
			}
		}
	}
	if some < 500 || none < 500 {
		t.Errorf("%d documents were let in by what says something, %d were not looked at", some, none)
	}
}
