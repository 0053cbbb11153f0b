package tests

import (
	"fmt"
	"math"
	"slices"
	"testing"

	"loop.example/g00380/impl"
)

func cleanIs(t *testing.T, list []impl.Done, oldest int, want []impl.Done) {
	t.Helper()
	if got, code := impl.CleanDone(list, oldest); !sameDones(got, want) || code != impl.OK {
		t.Errorf("CleanDone of %s up to %d: %s, %d, not %s", shownDones(list), oldest, shownDones(got), code, shownDones(want))
	}
}

func TestP10CleanDone(t *testing.T) {
	list := "0 3 ?1 =2 in|1 5 =4 out|4 9 ?6 -7 +more.8"
	for oldest, want := range map[int]string{
		math.MinInt: list, -1: list, 0: list, 1: list, 2: list,
		3: "1 5 =4 out|4 9 ?6 -7 +more.8", 4: "1 5 =4 out|4 9 ?6 -7 +more.8",
		5: "4 9 ?6 -7 +more.8", 6: "4 9 ?6 -7 +more.8", 8: "4 9 ?6 -7 +more.8",
		9: "", 10: "", 10000: "", 10001: "", math.MaxInt: "",
	} {
		cleanIs(t, dones(list), oldest, dones(want))
		cleanIs(t, nil, oldest, nil)
	}
	cleanIs(t, dones("0 10000"), 9999, dones("0 10000"))
	cleanIs(t, dones("0 10000"), 10000, nil)
	full := manyDones(impl.MaxDone)
	for oldest := range impl.MaxDone + 2 {
		cleanIs(t, full, oldest, full[min(oldest, impl.MaxDone):])
	}
}

// A cleaned list stands as it did to whoever comes behind.
func TestP10CleanedListsCertify(t *testing.T) {
	list := dones("0 2 =1|0 4 =2 out|3 6 ?3")
	for _, text := range []string{"4 9 ?1 ?2 =3", "5 9 ?2 =3", "6 9 =3", "4 9 =2"} {
		d := done(text)
		whole, code := impl.Certify(list, d)
		for oldest := range d.Snap + 1 {
			left, _ := impl.CleanDone(list, oldest)
			got, c := impl.Certify(left, d)
			want, _ := impl.CleanDone(whole, oldest)
			if c != code || !sameDones(got, want) {
				t.Errorf("Certify of %s behind %d: %s, %d, not %s, %d", text, oldest, shownDones(got), c, shownDones(want), code)
			}
		}
	}
}

func edgesAre(t *testing.T, list []impl.Done, want ...int) {
	t.Helper()
	if got, code := impl.EdgesOf(list); !slices.Equal(got, want) || code != impl.OK {
		t.Errorf("EdgesOf %s: %v, %d, not %v", shownDones(list), got, code, want)
	}
}

func TestP10EdgesOfPairs(t *testing.T) {
	edgesAre(t, nil)
	for text, want := range map[string][]int{
		// One alone, also if its reads hang on its own changes.
		"0 1": nil, "0 1 ?1": nil, "0 1 ?1 =1": nil,
		// By their times: up to the other one's Snap.
		"0 3|5 9": {0, 1}, "0 3|3 9": {0, 1}, "0 3|2 9": nil, "0 3|0 9": nil, "2 3|2 9": nil,
		// By their reads, either way, and both.
		"0 3 ?1|2 9 =1": {0, 1}, "0 3 =1|2 9 ?1": {1, 0}, "0 3 ?1 =2|2 9 ?2 =1": {0, 1, 1, 0}, "0 3 ?1|2 9 ?1": nil, "0 3 =1|2 9 =1": nil,
		"0 3 ?1|2 9 =2": nil, "0 3 ?1|2 9 =more.1": nil, "0 3 ?1|2 9 ~1": nil, "0 3 >1|2 9 +1": {0, 1}, "0 3 >1|2 9 -1": nil,
		// By their times and by their reads: one pair still.
		"0 3 ?1|3 9 =1": {0, 1}, "0 3 ?1|5 9 =1": {0, 1},
		// Whoever began behind the other one's At saw it: its reads bind nothing.
		"0 3 =1|3 9 ?1": {0, 1}, "0 3 =1|8 9 ?1": {0, 1}, "0 3 =1|1 9 ?1": {1, 0},
		// One's own reads do not bind one to oneself, among others either.
		"0 3 ?1 =1|2 9 ?2 =2": nil, "0 3 ?1 =1|3 9 ?2 =2": {0, 1},
		// Flags say nothing here.
		"0 3 in|2 9 out": nil, "0 3 ?1 out|2 9 =1 in": {0, 1}, "0 3 ?1 in|2 9 =1 out": {0, 1},
	} {
		edgesAre(t, dones(text), want...)
	}
}

func TestP10EdgesOfMany(t *testing.T) {
	// All behind one another: each comes ahead of all later ones.
	var want []int
	for i := range impl.MaxDone {
		for j := i + 1; j < impl.MaxDone; j++ {
			want = append(want, i, j)
		}
	}
	edgesAre(t, manyDones(impl.MaxDone), want...)
	// All at once, each reading what all the others change: each comes ahead of each other one.
	var list []impl.Done
	want = nil
	for i := range impl.MaxDone {
		list = append(list, done(fmt.Sprintf("0 %d >0 =%d =more.%d", i+1, i%20, i%20)))
		for j := range impl.MaxDone {
			if i != j {
				want = append(want, i, j)
			}
		}
	}
	edgesAre(t, list, want...)
	// By the first place, then by the second, whatever binds them.
	edgesAre(t, dones("0 2 =1|0 4 ?1 =2|3 6 ?2 ?3|2 8 =3"), 0, 2, 0, 3, 1, 0, 2, 1, 2, 3)
	edgesAre(t, dones("0 2 ?5|1 3 ?6 =5|2 4 =6"), 0, 1, 0, 2, 1, 2)
	edgesAre(t, dones("0 2 =5|1 3 ?5 =6|2 4 ?6"), 0, 2, 1, 0, 2, 1)
}

// The greatest list that there may be.
func TestP10EdgesOfFullOnes(t *testing.T) {
	var list []impl.Done
	for i := range impl.MaxDone {
		d := impl.Done{Snap: 0, At: i + 1, Changes: manyChanges(60)}
		for j := range impl.MaxReads {
			d.Reads = append(d.Reads, readOf(fmt.Sprint(">c0.", 2+j)))
		}
		list = append(list, d)
	}
	edgesAre(t, list)
	// The last of all reads is of the last of all changes.
	list[7].Reads[19] = readOf("?c2.18")
	var want []int
	for j := range impl.MaxDone {
		if j != 7 {
			want = append(want, 7, j)
		}
	}
	edgesAre(t, list, want...)
	d := impl.Done{Snap: 0, At: 100, Reads: list[0].Reads, Changes: changesOf("=5")}
	certifyIs(t, list, d, impl.ErrFull, nil)
	d.Changes = []impl.Change{changeOf("+c2.19")}
	certifyIs(t, list, d, impl.ErrConflict, nil)
	got, code := impl.Certify(list[:29], impl.Done{Snap: 0, At: 100, Reads: list[7].Reads})
	if code != impl.OK || len(got) != 30 || !got[0].In || got[0].Out || !got[28].In || got[29].In || !got[29].Out {
		t.Errorf("Certify: %s, %d", shownDones(got), code)
	}
}
