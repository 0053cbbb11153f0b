package tests

import (
	"fmt"
	"slices"
	"testing"

	"loop.example/g00380/impl"
)

// certifyIs asks for one, and for what the list is then: as it was with ErrConflict, ErrPivot and
// ErrFull, empty with another code.
func certifyIs(t *testing.T, list []impl.Done, d impl.Done, code int, want []impl.Done) {
	t.Helper()
	switch code {
	case impl.OK:
	case impl.ErrConflict, impl.ErrPivot, impl.ErrFull:
		want = list
	default:
		want = nil
	}
	got, c := impl.Certify(list, d)
	if !sameDones(got, want) || c != code {
		t.Errorf("Certify of %s into %s: %s, %d, not %s, %d", shownDone(d), shownDones(list), shownDones(got), c, shownDones(want), code)
	}
}

// A certifyRow has the list and the new one in words, then the list that is answered, or the word of
// a code.
type certifyRow struct{ list, d, want string }

func certifiesAre(t *testing.T, rows []certifyRow) {
	t.Helper()
	for _, r := range rows {
		if code := impl.CodeOf(r.want); code > impl.OK {
			certifyIs(t, dones(r.list), done(r.d), code, nil)
		} else {
			certifyIs(t, dones(r.list), done(r.d), impl.OK, dones(r.want))
		}
	}
}

func TestP10CertifyIntoNone(t *testing.T) {
	for _, text := range []string{"0 1", "0 1 ?1", "0 1 =1", "0 1 ?1 =1", "5 9 ?1 ?2 +3 -4", "9999 10000 >0 ~3", "0 10000"} {
		certifyIs(t, nil, done(text), impl.OK, dones(text))
		certifyIs(t, []impl.Done{}, done(text), impl.OK, dones(text))
		// What it says of itself counts for nothing, even if it is both.
		for _, flags := range []string{" in", " out", " in out"} {
			certifyIs(t, nil, done(text+flags), impl.OK, dones(text))
		}
	}
}

func TestP10CertifyInOrder(t *testing.T) {
	list := dones("0 3 =1|3 7 =2")
	for at := 1; at <= 7; at++ {
		for snap := range at {
			// Whatever else there is to tell.
			for _, words := range []string{"", " =1", " =2", " ?1 =2", " =8", " in out"} {
				certifyIs(t, list, done(fmt.Sprint(snap, " ", at, words)), impl.ErrOrder, nil)
			}
		}
	}
	for at := 8; at <= 11; at++ {
		for snap := range at {
			d := done(fmt.Sprint(snap, " ", at, " =8 ?9"))
			certifyIs(t, list, d, impl.OK, append(dones("0 3 =1|3 7 =2"), d))
		}
	}
	certifiesAre(t, []certifyRow{
		{"0 1", "0 1", "order"},
		{"0 1", "1 2", "0 1|1 2"},
		{"0 1", "0 2", "0 1|0 2"},
		{"0 10000", "9999 10000", "order"},
		{"0 9999", "0 10000", "0 9999|0 10000"},
		{"0 2|1 4|3 6", "4 6", "order"},
		{"0 2|1 4|3 6", "1 5", "order"},
		{"0 2|1 4|3 6", "0 7", "0 2|1 4|3 6|0 7"},
	})
	full := manyDones(impl.MaxDone)
	certifyIs(t, full, done("29 30 =1"), impl.ErrOrder, nil)
	certifyIs(t, full, done("0 1 =9"), impl.ErrOrder, nil)
}

func TestP10CertifyConflicts(t *testing.T) {
	certifiesAre(t, []certifyRow{
		// Ahead of d's Snap, at it, and behind it.
		{"0 4 =1", "5 9 =1", "0 4 =1|5 9 =1"},
		{"0 4 =1", "4 9 =1", "0 4 =1|4 9 =1"},
		{"0 4 =1", "3 9 =1", "conflict"},
		{"3 4 =1", "0 9 =1", "conflict"},
		// By what is changed, not by how.
		{"0 4 +1", "3 9 -1", "conflict"},
		{"0 4 -1", "3 9 +1", "conflict"},
		{"0 4 ~1", "3 9 ~1", "conflict"},
		{"0 4 ~1", "3 9 =1", "conflict"},
		{"0 4 =0", "3 9 =0", "conflict"},
		{"0 4 =19", "3 9 =19", "conflict"},
		{"0 4 =1", "3 9 =2", "0 4 =1|3 9 =2"},
		{"0 4 =1", "3 9 =11", "0 4 =1|3 9 =11"},
		{"0 4 =more.1", "3 9 =1", "0 4 =more.1|3 9 =1"},
		{"0 4 =1", "3 9 =more.1", "0 4 =1|3 9 =more.1"},
		{"0 4 =more.1", "3 9 =more.1", "conflict"},
		// Of several, any.
		{"0 4 =1 =2 =3", "3 9 =5 =4 =3", "conflict"},
		{"0 4 =1 =2 =3", "3 9 =1 =6", "conflict"},
		{"0 4 =1 =2 =3", "3 9 =4 =more.1", "0 4 =1 =2 =3|3 9 =4 =more.1"},
		{"0 2 =1|0 4 =2|0 6 =3", "1 9 =3", "conflict"},
		{"0 2 =1|0 4 =2|0 6 =3", "1 9 =1", "conflict"},
		{"0 2 =1|0 4 =2|0 6 =3", "3 9 =2", "conflict"},
		{"0 2 =1|0 4 =2|0 6 =3", "3 9 =1", "0 2 =1|0 4 =2|0 6 =3|3 9 =1"},
		{"0 2 =1|2 4 =1|4 6 =2", "4 9 =1", "0 2 =1|2 4 =1|4 6 =2|4 9 =1"},
		{"0 2 =1|2 4 =1|4 6 =2", "3 9 =1", "conflict"},
		// Those that read alone change nothing.
		{"0 4 ?1", "3 9 ?1", "0 4 ?1|3 9 ?1"},
		{"0 4 =1", "3 9", "0 4 =1|3 9"},
		{"0 4", "3 9 =1", "0 4|3 9 =1"},
		// Flags have nothing to do with it.
		{"0 4 =1 in", "3 9 =1", "conflict"},
		{"0 4 =1 out", "3 9 =1", "conflict"},
	})
}

func TestP10CertifyEdges(t *testing.T) {
	certifiesAre(t, []certifyRow{
		// d's reads hang on the other one's changes.
		{"0 4 =1", "3 9 ?1", "0 4 =1 in|3 9 ?1 out"},
		{"0 4 =1", "4 9 ?1", "0 4 =1|4 9 ?1"},
		{"0 4 =1", "5 9 ?1", "0 4 =1|5 9 ?1"},
		{"0 4 =1", "3 9 ?2", "0 4 =1|3 9 ?2"},
		{"0 4 =1", "3 9 ?more.1", "0 4 =1|3 9 ?more.1"},
		{"0 4 +1", "3 9 ?1", "0 4 +1 in|3 9 ?1 out"},
		{"0 4 -1", "3 9 ?1", "0 4 -1 in|3 9 ?1 out"},
		{"0 4 ~1", "3 9 ?1", "0 4 ~1|3 9 ?1"},
		{"0 4 -1", "3 9 >1", "0 4 -1|3 9 >1"},
		{"0 4 =1 =2", "3 9 ?5 ?2", "0 4 =1 =2 in|3 9 ?5 ?2 out"},
		// The other one's reads hang on d's changes.
		{"0 4 ?1", "3 9 =1", "0 4 ?1 out|3 9 =1 in"},
		{"0 4 ?1", "4 9 =1", "0 4 ?1|4 9 =1"},
		{"0 4 ?1", "5 9 =1", "0 4 ?1|5 9 =1"},
		{"0 4 ?1", "3 9 =2", "0 4 ?1|3 9 =2"},
		{"0 4 ?1", "3 9 =more.1", "0 4 ?1|3 9 =more.1"},
		{"0 4 ?1 ?2", "3 9 =5 -2", "0 4 ?1 ?2 out|3 9 =5 -2 in"},
		// One's own reads and changes bind nobody.
		{"0 4 ?1 =1", "3 9 ?2 =2", "0 4 ?1 =1|3 9 ?2 =2"},
		{"", "3 9 ?2 =2", "3 9 ?2 =2"},
		// Both of one other one: both become pivots.
		{"0 4 ?1 =2", "3 9 ?2 =1", "pivot"},
		{"0 4 ?1 =2", "4 9 ?2 =1", "0 4 ?1 =2|4 9 ?2 =1"},
		// Each of another one: d is the pivot.
		{"0 4 =1|0 5 ?2", "3 9 ?1 =2", "pivot"},
		{"0 4 ?2|0 5 =1", "3 9 ?1 =2", "pivot"},
		{"0 4 =1|0 5 ?2", "4 9 ?1 =2", "0 4 =1|0 5 ?2 out|4 9 ?1 =2 in"},
		{"0 4 ?2|0 5 =1", "4 9 ?1 =2", "0 4 ?2|0 5 =1 in|4 9 ?1 =2 out"},
		{"0 4 =1|0 5 ?2", "5 9 ?1 =2", "0 4 =1|0 5 ?2|5 9 ?1 =2"},
		// The same way of several.
		{"0 4 =1|0 5 =2|0 6 =3", "3 9 ?1 ?3", "0 4 =1 in|0 5 =2|0 6 =3 in|3 9 ?1 ?3 out"},
		{"0 4 ?1|0 5 ?2|0 6 ?1", "3 9 =1", "0 4 ?1 out|0 5 ?2|0 6 ?1 out|3 9 =1 in"},
		{"0 4 =1|0 5 =2|0 6 =3", "4 9 ?1 ?2 ?3", "0 4 =1|0 5 =2 in|0 6 =3 in|4 9 ?1 ?2 ?3 out"},
	})
}

func TestP10CertifyCommittedPivots(t *testing.T) {
	certifiesAre(t, []certifyRow{
		// One that was Out already becomes In, and the other way round.
		{"0 4 =1 out", "3 9 ?1", "pivot"},
		{"0 4 ?1 in", "3 9 =1", "pivot"},
		{"0 4 =1 out", "4 9 ?1", "0 4 =1 out|4 9 ?1"},
		{"0 4 ?1 in", "4 9 =1", "0 4 ?1 in|4 9 =1"},
		// What it is already it may become again.
		{"0 4 =1 in", "3 9 ?1", "0 4 =1 in|3 9 ?1 out"},
		{"0 4 ?1 out", "3 9 =1", "0 4 ?1 out|3 9 =1 in"},
		{"0 4 =1 in", "3 9 ?2", "0 4 =1 in|3 9 ?2"},
		{"0 4 =1 out", "3 9 ?2", "0 4 =1 out|3 9 ?2"},
		// Whichever of several it is.
		{"0 3 =5|0 4 =1 out|0 5 =6", "2 9 ?1", "pivot"},
		{"0 3 =1|0 4 =2|0 5 =3 out", "2 9 ?1 ?2 ?3", "pivot"},
		{"0 3 =1 out|0 4 =2|0 5 =3", "2 9 ?1 ?2 ?3", "pivot"},
		{"0 3 =1 out|0 4 =2|0 5 =3", "3 9 ?1 ?2 ?3", "0 3 =1 out|0 4 =2 in|0 5 =3 in|3 9 ?1 ?2 ?3 out"},
		{"0 3 ?1 in|0 4 ?1 out", "2 9 =1", "pivot"},
		{"0 3 ?1 in|0 4 ?1 out", "3 9 =1", "0 3 ?1 in|0 4 ?1 out|3 9 =1 in"},
		// d's own flags do not count.
		{"0 4 =1", "3 9 ?1 in", "0 4 =1 in|3 9 ?1 out"},
		{"0 4 ?1", "3 9 =1 out", "0 4 ?1 out|3 9 =1 in"},
		{"0 4 =1", "3 9 ?1 in out", "0 4 =1 in|3 9 ?1 out"},
		{"0 4 =1", "3 9 ?2 in out", "0 4 =1|3 9 ?2"},
	})
	// Three by turns: the one in the middle was committed first.
	list, code := impl.Certify(nil, done("0 4 ?1 =2"))
	if code != impl.OK {
		t.Fatal(code)
	}
	certifyIs(t, list, done("3 6 ?2"), impl.OK, dones("0 4 ?1 =2 in|3 6 ?2 out"))
	list, _ = impl.Certify(list, done("3 6 ?2"))
	certifyIs(t, list, done("3 9 =1"), impl.ErrPivot, nil)
	// Behind the first one's At it may be.
	certifyIs(t, list, done("4 9 =1"), impl.OK, dones("0 4 ?1 =2 in|3 6 ?2 out|4 9 =1"))
	// Of a refused one nothing stays noted.
	list, _ = impl.Certify(list, done("3 9 =1"))
	certifyIs(t, list, done("3 9 ?2"), impl.OK, dones("0 4 ?1 =2 in|3 6 ?2 out|3 9 ?2 out"))
}

func TestP10CertifyIntoAFullList(t *testing.T) {
	for _, n := range []int{1, impl.MaxDone - 2, impl.MaxDone - 1} {
		list := manyDones(n)
		d := done("100 200 ?8 =9")
		certifyIs(t, list, d, impl.OK, append(manyDones(n), d))
	}
	full := manyDones(impl.MaxDone)
	for _, text := range []string{"100 200", "100 200 ?8 =9", "0 31", "30 31 ?1", "29 10000 ?1"} {
		certifyIs(t, full, done(text), impl.ErrFull, nil)
	}
	// Edges that would be no fault are not noted either.
	for _, text := range []string{"29 31 ?9", "10 31 ?9", "29 31 =8", "10 31 =8"} {
		certifyIs(t, full, done(text), impl.ErrFull, nil)
	}
	for _, flags := range []string{" in", " out", " in out"} {
		certifyIs(t, full, done("100 200 ?8"+flags), impl.ErrFull, nil)
	}
	room, code := impl.CleanDone(full, 1)
	if code != impl.OK {
		t.Fatal(code)
	}
	certifyIs(t, room, done("100 200"), impl.OK, append(manyDones(impl.MaxDone)[1:], done("100 200")))
}

// Where two codes would do the earlier one of the chapter is told.
func TestP10CertifyWhichCode(t *testing.T) {
	full := manyDones(impl.MaxDone)
	pivots := slices.Concat(manyDones(impl.MaxDone-2), dones("0 29 =1 out|0 30 ?2 =3"))
	for _, r := range []struct {
		what string
		list []impl.Done
		d    impl.Done
		code int
	}{
		{"order and conflict", full, done("0 30 =9"), impl.ErrOrder},
		{"order and pivot", full, done("0 30 ?9 =8"), impl.ErrOrder},
		{"order and full", full, done("29 30"), impl.ErrOrder},
		{"conflict and pivot", dones("0 4 ?1 =2 =5"), done("3 9 ?2 =1 =5"), impl.ErrConflict},
		{"conflict behind a pivot", dones("0 4 =1 out|0 5 =7"), done("3 9 ?1 =7"), impl.ErrConflict},
		{"conflict ahead of a pivot", dones("0 4 =7|0 5 =1 out"), done("3 9 ?1 =7"), impl.ErrConflict},
		{"conflict and full", full, done("29 31 =9"), impl.ErrConflict},
		{"conflict, pivot and full", pivots, done("20 31 ?1 =3"), impl.ErrConflict},
		{"a committed pivot and full", pivots, done("20 31 ?1"), impl.ErrPivot},
		{"d a pivot and full", pivots, done("20 31 ?3 =2"), impl.ErrPivot},
		{"d a pivot of two and full", full, done("20 31 ?9 =8"), impl.ErrPivot},
		{"full alone", pivots, done("30 31 ?1 =3"), impl.ErrFull},
		{"bad and order", full, done("30 30"), impl.ErrBad},
		{"bad and conflict", full, done("0 31 =9 =9"), impl.ErrBad},
		{"a bad list and order", dones("0 4|0 4"), done("0 1"), impl.ErrBad},
		{"both bad", dones("0 4|0 4"), done("1 1"), impl.ErrBad},
	} {
		t.Run(r.what, func(t *testing.T) { certifyIs(t, r.list, r.d, r.code, nil) })
	}
}

func TestP10WrongLists(t *testing.T) {
	for _, text := range []string{
		"0 4|0 4", "0 4|0 3", "0 2|0 4|0 3", "0 4|0 2|0 6", "0 2|0 4|0 4", "0 2|0 2|0 4", "0 9|0 8|0 7", "0 10000|0 1",
		"0 4 in out", "0 4 in out|0 5", "0 4|0 5 in out", "0 3|0 4 in out ?1 =2|0 5", "0 4 in out|0 5 in out", "0 4 in|0 5 out|0 6 in out",
	} {
		wrongDones(t, text, dones(text), impl.ErrBad)
	}
	for _, n := range []int{impl.MaxDone + 1, impl.MaxDone + 2, 40, 41, impl.MaxList} {
		wrongDones(t, fmt.Sprint(n, " of them"), manyDones(n), impl.ErrBad)
		wrongDones(t, fmt.Sprint(n, " zero ones"), make([]impl.Done, n), impl.ErrBad)
	}
	for _, n := range []int{impl.MaxList + 1, 2 * impl.MaxList} {
		wrongDones(t, fmt.Sprint(n, " of them"), manyDones(n), impl.ErrLong)
		wrongDones(t, fmt.Sprint(n, " zero ones"), make([]impl.Done, n), impl.ErrLong)
	}
	for place := range impl.MaxDone {
		list := manyDones(impl.MaxDone)
		list[place].In, list[place].Out = true, true
		wrongDones(t, fmt.Sprint("both at ", place), list, impl.ErrBad)
		list = manyDones(impl.MaxDone)
		list[place].Changes = changesOf("=9 -9")
		wrongDones(t, fmt.Sprint("a document twice at ", place), list, impl.ErrBad)
	}
}

// Lists that Certify would never make may be right all the same.
func TestP10RightLists(t *testing.T) {
	for _, text := range []string{
		"", "0 1", "0 1|0 2|0 3", "5 6|1 7|6 8", "0 4 in|0 5 out|0 6", "0 4 =1|0 5 =1", "0 4 ?1 =2|0 5 ?2 =1", "0 4 in|9998 9999 in|9999 10000 out",
	} {
		if got, code := impl.CleanDone(dones(text), 0); !sameDones(got, dones(text)) || code != impl.OK {
			t.Errorf("CleanDone of %s: %s, %d", text, shownDones(got), code)
		}
		if _, code := impl.EdgesOf(dones(text)); code != impl.OK {
			t.Errorf("EdgesOf of %s: %d", text, code)
		}
		if _, code := impl.Certify(dones(text), done("0 10000")); code != impl.OK && code != impl.ErrOrder {
			t.Errorf("Certify into %s: %d", text, code)
		}
	}
	for _, n := range []int{impl.MaxDone - 1, impl.MaxDone} {
		if got, code := impl.CleanDone(manyDones(n), 0); len(got) != n || code != impl.OK {
			t.Errorf("CleanDone of %d: %d, %d", n, len(got), code)
		}
		if _, code := impl.EdgesOf(manyDones(n)); code != impl.OK {
			t.Errorf("EdgesOf of %d: %d", n, code)
		}
	}
}
