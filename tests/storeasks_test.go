package tests

import (
	"slices"
	"strings"
	"testing"

	"loop.example/g00380/impl"
)

func asksAre(t *testing.T, s impl.Store, oldest int, sessions ...int) {
	t.Helper()
	if list, code := impl.OpenSessions(s); !slices.Equal(list, sessions) || code != impl.OK {
		t.Errorf("OpenSessions of %s: %v, %d, not %v", shownStore(s), list, code, sessions)
	}
	if n, code := impl.OldestSnap(s); n != oldest || code != impl.OK {
		t.Errorf("OldestSnap of %s: %d, %d, not %d", shownStore(s), n, code, oldest)
	}
}

func TestP12OpenSessionsAndOldestSnap(t *testing.T) {
	s := storeOf(9, coll("1 2=1 6=2"))
	asksAre(t, fresh(), 0)
	asksAre(t, s, 9)
	asksAre(t, storeOf(impl.MaxClock, coll("")), impl.MaxClock)
	asksAre(t, withTxns(s, "0 0"), 0, 0)
	asksAre(t, withTxns(s, "0 9"), 9, 0)
	asksAre(t, withTxns(s, "3 4"), 4, 3)
	asksAre(t, withTxns(s, "0 4", "1 5"), 4, 0, 1)
	asksAre(t, withTxns(s, "0 5", "3 4"), 4, 0, 3)
	asksAre(t, withTxns(s, "1 7", "2 7"), 7, 1, 2)
	asksAre(t, withTxns(s, "0 8", "1 3", "2 6", "3 9"), 3, 0, 1, 2, 3)
	// Of those that were committed no Snap is open.
	asksAre(t, withDone(s, "0 3|1 4"), 9)
	asksAre(t, withDone(withTxns(s, "2 6"), "0 3|1 4"), 6, 2)
}

func TestP12AskedInATalk(t *testing.T) {
	s := talk(t, fresh(), "0 insert 1=1: ok 1", "2 begin: ok 0")
	asksAre(t, s, 1, 2)
	s = talk(t, s, "0 inc *: ok 1", "0 begin: ok 0", "3 inc *: ok 1", "3 begin: ok 0")
	asksAre(t, s, 1, 0, 2, 3)
	s = talk(t, s, "2 abort: ok 0")
	asksAre(t, s, 2, 0, 3)
	s = talk(t, s, "0 commit: ok 0")
	asksAre(t, s, 3, 3)
	s = talk(t, s, "3 abort: ok 0")
	asksAre(t, s, 4)
}

func TestP12DocsNow(t *testing.T) {
	s := storeOf(9, named("a", "1 9=7|2 8-"), coll("1 2=1 6=2|5 3=3 4-|7 1- 5=4|19 9=5"), named("more", ""))
	for _, s := range []impl.Store{s, withTxns(s, "0 3 a.1- 1- 2=2 more.1=1", "1 9 5=9"), withDone(s, "0 3 =1|4 6 =5")} {
		nowIs(t, s, "a", "1=7")
		nowIs(t, s, "docs", "1=2 7=4 19=5")
		nowIs(t, s, "more", "")
		for _, name := range append(wrongNames(), "none", "doc", "docs_", "A", "aa", "twelve_bytes") {
			if docs, code := impl.DocsNow(s, name); len(docs) != 0 || code != impl.ErrName {
				t.Errorf("DocsNow of %.20q: %v, %d", name, docs, code)
			}
		}
		for _, n := range []int{impl.MaxText + 1, 2 * impl.MaxText} {
			if docs, code := impl.DocsNow(s, strings.Repeat("n", n)); len(docs) != 0 || code != impl.ErrLong {
				t.Errorf("DocsNow of a text of %d: %v, %d", n, docs, code)
			}
		}
	}
}

// A text that is too long is told ahead of a store that is not right.
func TestP12LongNamesOfWrongStores(t *testing.T) {
	for _, s := range []impl.Store{{}, storeOf(-1, coll("")), storeOf(1, coll("1 2=1"))} {
		for _, row := range []struct{ n, code int }{{impl.MaxText, impl.ErrBad}, {impl.MaxText + 1, impl.ErrLong}} {
			if docs, code := impl.DocsNow(s, strings.Repeat("n", row.n)); len(docs) != 0 || code != row.code {
				t.Errorf("DocsNow of a text of %d: %v, %d, not %d", row.n, docs, code, row.code)
			}
		}
	}
}
