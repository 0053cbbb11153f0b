package tests

import (
	"fmt"
	"math/rand"
	"strings"
	"testing"

	"loop.example/g00380/impl"
)

// A cleanRow has transactions, the chains of docs and those that were committed; then who ends, and
// what is left of all.
type cleanRow struct {
	txns, chains, done       string
	ends                     int
	leftChains, leftDone, by string
}

func split(text string) []string {
	if text == "" {
		return nil
	}
	return strings.Split(text, "|")
}

func cleansAre(t *testing.T, rows []cleanRow) {
	t.Helper()
	for _, row := range rows {
		s := withDone(withTxns(storeOf(9, coll(row.chains, def("one", "k")), named("more", "")), split(row.txns)...), row.done)
		want := withDone(storeOf(9, coll(row.leftChains, def("one", "k")), named("more", "")), row.leftDone)
		for _, x := range s.Txns {
			if x.Session != row.ends {
				want.Txns = append(want.Txns, x)
			}
		}
		if row.by == "commit" {
			want.Clock = 10
			if row.leftDone != "" {
				want.Done = append(want.Done, impl.Done{Snap: snapOf(s, row.ends), At: 10})
			}
		}
		x := doIs(t, s, command(fmt.Sprint(row.ends, " ", row.by)), row.txns, impl.Reply{})
		storeIs(t, fmt.Sprintf("%v", row), x, want)
	}
}

func snapOf(s impl.Store, session int) int {
	for _, x := range s.Txns {
		if x.Session == session {
			return x.Snap
		}
	}
	return -1
}

func TestP12CleanedUp(t *testing.T) {
	chains, done := "1 2=1 6=2 8=3|2 3=1 7-|3 4-|5 1=1|7 5- 9=1", "0 3 ?8|1 6 =9|4 7 ?8|6 9"
	cleansAre(t, []cleanRow{
		// Nobody else is open: all that is older than now goes.
		{"0 9", chains, done, 0, "1 8=3|5 1=1|7 9=1", "", "abort"},
		{"2 0", chains, done, 2, "1 8=3|5 1=1|7 9=1", "", "abort"},
		{"2 5 ?1 1=7", chains, done, 2, "1 8=3|5 1=1|7 9=1", "", "abort"},
		{"0 9", chains, done, 0, "1 8=3|5 1=1|7 9=1", "", "commit"},
		{"3 4", chains, done, 3, "1 8=3|5 1=1|7 9=1", "", "commit"},
		// An older one is open: what it sees stays, and all behind that.
		{"0 0|1 9", chains, done, 1, chains, done, "abort"},
		{"0 9|1 0", chains, done, 0, chains, done, "abort"},
		{"0 2|1 9", chains, done, 1, chains, done, "abort"},
		{"0 3|1 9", chains, done, 1, chains, "1 6 =9|4 7 ?8|6 9", "abort"},
		{"0 4|1 9", chains, done, 1, "1 2=1 6=2 8=3|2 3=1 7-|5 1=1|7 5- 9=1", "1 6 =9|4 7 ?8|6 9", "abort"},
		{"0 5|1 9", chains, done, 1, "1 2=1 6=2 8=3|2 3=1 7-|5 1=1|7 9=1", "1 6 =9|4 7 ?8|6 9", "abort"},
		{"0 6|1 9", chains, done, 1, "1 6=2 8=3|2 3=1 7-|5 1=1|7 9=1", "4 7 ?8|6 9", "abort"},
		{"0 7|1 9", chains, done, 1, "1 6=2 8=3|5 1=1|7 9=1", "6 9", "abort"},
		{"0 8|1 9", chains, done, 1, "1 8=3|5 1=1|7 9=1", "6 9", "abort"},
		{"0 8|1 9", chains, done, 1, "1 8=3|5 1=1|7 9=1", "6 9", "commit"},
		{"0 3|1 9", chains, done, 1, chains, "1 6 =9|4 7 ?8|6 9", "commit"},
		// Newer ones are open: the oldest of these counts then.
		{"0 0|1 9", chains, done, 0, "1 8=3|5 1=1|7 9=1", "", "abort"},
		{"0 0|1 6", chains, done, 0, "1 6=2 8=3|2 3=1 7-|5 1=1|7 9=1", "4 7 ?8|6 9", "abort"},
		{"0 0|1 8|2 6|3 7", chains, done, 0, "1 6=2 8=3|2 3=1 7-|5 1=1|7 9=1", "4 7 ?8|6 9", "abort"},
		{"0 0|1 8|2 6|3 7", chains, done, 2, chains, done, "abort"},
		{"0 6|1 0|2 6", chains, done, 1, "1 6=2 8=3|2 3=1 7-|5 1=1|7 9=1", "4 7 ?8|6 9", "abort"},
		{"0 6|1 6", chains, done, 1, "1 6=2 8=3|2 3=1 7-|5 1=1|7 9=1", "4 7 ?8|6 9", "abort"},
		{"0 4|1 6", chains, done, 0, "1 6=2 8=3|2 3=1 7-|5 1=1|7 9=1", "4 7 ?8|6 9", "commit"},
	})
	cleansAre(t, []cleanRow{
		{"0 0", "", "", 0, "", "", "abort"}, {"0 0", "", "", 0, "", "", "commit"},
		{"0 0", "1 9-", "", 0, "", "", "abort"}, {"0 0", "1 9-", "", 0, "", "", "commit"},
		{"0 0|1 8", "1 9-", "", 0, "1 9-", "", "abort"}, {"0 0|1 9", "1 9-", "", 0, "", "", "abort"},
	})
}

// A commit that is refused cleans up as one that is not.
func TestP12CleanedUpBehindARefusal(t *testing.T) {
	chains, done := "1 2=1 6=2 8=3|2 3=1 7-|5 1=1", "0 3 ?8|4 7 =1 ?8|6 8 =5"
	for txns, row := range map[string]struct{ chains, done, code string }{
		"0 3 1=7":                   {"1 8=3|5 1=1", "", "conflict"},
		"0 7 5-":                    {"1 8=3|5 1=1", "", "conflict"},
		"0 3 ?1 8=7":                {"1 8=3|5 1=1", "", "pivot"},
		"0 3 1=7|1 9":               {"1 8=3|5 1=1", "", "conflict"},
		"0 3 1=7|1 7":               {"1 6=2 8=3|5 1=1", "6 8 =5", "conflict"},
		"0 3 1=7|1 3|2 7":           {chains, "4 7 =1 ?8|6 8 =5", "conflict"},
		"0 3 1=7|1 0|2 7":           {chains, done, "conflict"},
		"0 5 5=7|1 6 1-|2 6|3 6 ?5": {"1 6=2 8=3|2 3=1 7-|5 1=1", "4 7 =1 ?8|6 8 =5", "conflict"},
	} {
		s := withDone(withTxns(storeOf(9, coll(chains), named("more", "")), split(txns)...), done)
		want := withDone(withTxns(storeOf(9, coll(row.chains), named("more", "")), split(txns)[1:]...), row.done)
		storeIs(t, txns, doIs(t, s, command("0 commit"), txns, reply(row.code)), want)
	}
}

// All collections are cleaned up, whichever was written.
func TestP12AllCollectionsAreCleaned(t *testing.T) {
	old := "1 2=1 6=2|5 3=3 4-"
	s := withTxns(storeOf(9, named("a", old), coll(old), named("more", old)), "0 3 more.7=7")
	left := "1 6=2"
	storeIs(t, "aborted", doIs(t, s, command("0 abort"), "abort", impl.Reply{}), storeOf(9, named("a", left), coll(left), named("more", left)))
	storeIs(t, "committed", doIs(t, s, command("0 commit"), "commit", impl.Reply{}), storeOf(10, named("a", left), coll(left), named("more", left+"|7 10=7")))
	alone := doIs(t, storeOf(9, named("a", old), coll(old), named("more", old)), command("0 insert 7=7"), "insert", impl.Reply{N: 1})
	storeIs(t, "alone", alone, storeOf(10, named("a", left), coll(left+"|7 10=7"), named("more", left)))
}

// Without an open transaction nothing is kept but documents, whatever came; and with one nothing that
// its snapshot, or a newer one, has no use for.
func TestP12NothingIdleIsKept(t *testing.T) {
	kept, bare := 0, 0
	for seed := range int64(60) {
		r := rand.New(rand.NewSource(seed))
		pool := poolOf(r, 20)
		s := storeOf(0, named("a", ""), coll(""))
		for range 60 {
			x, _, code := impl.Do(s, poolCommand(r, pool))
			if code != impl.OK {
				t.Fatalf("Do: %d", code)
			}
			s = x
			oldest, _ := impl.OldestSnap(s)
			versions, docs := 0, 0
			for _, c := range s.Colls {
				n, _ := impl.VersionsOf(c)
				versions, docs = versions+n, docs+len(mustNow(t, s, c.Name))
				if d, _ := impl.Vacuum(c, oldest); !sameColl(d, c) {
					t.Fatalf("there is something left to clean up to %d: %s", oldest, shownStore(s))
				}
			}
			if list, _ := impl.CleanDone(s.Done, oldest); !sameDones(list, s.Done) {
				t.Fatalf("there is something left to clean up to %d: %s", oldest, shownStore(s))
			}
			if len(s.Txns) == 0 && (len(s.Done) != 0 || versions != docs) {
				t.Fatalf("nothing is open: %s", shownStore(s))
			}
			if len(s.Txns) == 0 {
				bare++
			} else if versions > docs && len(s.Done) > 0 {
				kept++
			}
		}
	}
	if kept < 300 || bare < 300 {
		t.Errorf("kept %d times, bare %d times", kept, bare)
	}
}
