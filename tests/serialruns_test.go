package tests

import (
	"math/rand"
	"slices"
	"testing"

	"loop.example/g00380/impl"
)

// comesAheadOf is what chapter 10 says of two of a list.
func (p plainDone) comesAheadOf(o plainDone) bool {
	return p.at <= o.snap || o.at > p.snap && p.readsFrom(o)
}

// serial is what chapter 13 says: the places, and whether there are any.
func serial(list []plainDone) ([]int, bool) {
	var order []int
	for len(order) < len(list) {
		place := slices.IndexFunc(upTo(len(list)), func(i int) bool {
			if slices.Contains(order, i) {
				return false
			}
			for j, o := range list {
				if j != i && !slices.Contains(order, j) && o.comesAheadOf(list[i]) {
					return false
				}
			}
			return true
		})
		if place < 0 {
			return nil, false
		}
		order = append(order, place)
	}
	return order, true
}

// hasRing asks whether somebody comes ahead of himself by way of others.
func hasRing(list []plainDone) bool {
	reach := make([][]bool, len(list))
	for i, p := range list {
		reach[i] = make([]bool, len(list))
		for j, o := range list {
			reach[i][j] = i != j && p.comesAheadOf(o)
		}
	}
	for k := range list {
		for i := range list {
			for j := range list {
				reach[i][j] = reach[i][j] || reach[i][k] && reach[k][j]
			}
		}
	}
	return slices.ContainsFunc(upTo(len(list)), func(i int) bool { return reach[i][i] })
}

// serialIs holds SerialOrder of a plain list to chapter 13, and says whether it has one.
func serialIs(t *testing.T, list []plainDone) bool {
	t.Helper()
	order, there := serial(list)
	if there == hasRing(list) {
		t.Fatalf("%v is the order of %s", order, shownDones(plainList(list)))
	}
	if there {
		orderIs(t, plainList(list), order...)
	} else {
		noOrderOf(t, "a ring", plainList(list), impl.ErrOrder)
	}
	return there
}

// plainDones are so many, whose At rises, which nobody certified.
func plainDones(r *rand.Rand, n, ids, reach int) []plainDone {
	run := &certifyRun{r: r, ids: ids, reach: reach}
	var list []plainDone
	at := 0
	for range n {
		p := run.next()
		at += 1 + r.Intn(2)
		p.at, p.snap = at, max(0, at-1-r.Intn(reach))
		list = append(list, p)
	}
	return list
}

func TestP13RandomLists(t *testing.T) {
	r := rand.New(rand.NewSource(1301))
	count, moved := map[bool]int{}, 0
	for range 1500 {
		list := plainDones(r, r.Intn(13), pick(r, []int{4, 8, 20}), 1+r.Intn(9))
		there := serialIs(t, list)
		count[there]++
		if order, _ := serial(list); there && !slices.IsSorted(order) {
			moved++
		}
	}
	if count[true] < 500 || count[false] < 200 || moved < 200 {
		t.Errorf("with an order and without: %v, not as they stood: %d", count, moved)
	}
}

func TestP13RandomLongLists(t *testing.T) {
	r := rand.New(rand.NewSource(1302))
	count, moved := map[bool]int{}, 0
	for range 300 {
		list := plainDones(r, 30+r.Intn(11), impl.TopId+1, 2+r.Intn(6))
		there := serialIs(t, list)
		count[there]++
		if order, _ := serial(list); there && !slices.IsSorted(order) {
			moved++
		}
	}
	if count[true] < 40 || count[false] < 40 || moved < 20 {
		t.Errorf("with an order and without: %v, not as they stood: %d", count, moved)
	}
}

// Those that were certified one by one have an order always, also when some were cleaned away since.
func TestP13CertifiedOnesHaveAnOrder(t *testing.T) {
	moved, whole := 0, 0
	for seed := range int64(60) {
		run := &certifyRun{r: rand.New(rand.NewSource(1310 + seed)), ids: 3 + int(seed%4)*5, reach: 3 + int(seed%5), codes: map[int]int{}}
		var list []impl.Done
		for step := range 70 {
			if run.r.Intn(9) == 0 {
				list = run.clean(t, list)
			} else {
				list = run.certify(t, list)
			}
			if step%10 != 9 {
				continue
			}
			last := run.whole[max(0, len(run.whole)-impl.MaxPast):]
			if !serialIs(t, last) {
				t.Fatalf("there is no order of %s", shownDones(plainList(last)))
			}
			if order, _ := serial(last); !slices.IsSorted(order) {
				moved++
			}
			got, code := impl.SerialOrder(list)
			if code != impl.OK {
				t.Fatalf("SerialOrder of %s: %d", shownDones(list), code)
			}
			keepsPairs(t, list, got)
			if len(last) == impl.MaxPast {
				whole++
			}
		}
	}
	if moved < 80 || whole < 10 {
		t.Errorf("not as they stood: %d, with as many as there may be: %d", moved, whole)
	}
}

// The reads of a pivot that is refused would make a ring, or might have.
func TestP13RefusedPivotsMakeRings(t *testing.T) {
	rings := 0
	for seed := range int64(200) {
		run := &certifyRun{r: rand.New(rand.NewSource(1390 + seed)), ids: 4, reach: 9, codes: map[int]int{}}
		var list []impl.Done
		for range 25 {
			p := run.next()
			code, more := run.outcome(p)
			if code == impl.ErrPivot {
				all := append(slices.Clone(run.whole), p)
				if !serialIs(t, all) {
					rings++
				}
				continue
			}
			if code == impl.OK {
				run.kept++
				run.whole = more
				certifyIs(t, list, p.done(), code, plainList(run.list()))
				list, _ = impl.Certify(list, p.done())
			}
		}
	}
	if rings < 50 {
		t.Errorf("%d rings", rings)
	}
}
