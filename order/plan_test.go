package order_test

import (
	"slices"
	"testing"

	"forecourt/api"
	"forecourt/order"
)

// P7.3
func TestCheckPlan(t *testing.T) {
	// on the first day nothing will do, as the need is 1 and the room 0
	narrow := kind(20, 10, 2, rg(9, 11), days(10, 10, 0, 0), 3, 4)
	// the need of the first day is 3, the room 1
	wide := kind(20, 10, 3, rg(5, 5), days(35, 35), 3)
	for i, x := range []struct {
		k    api.OrderKind
		plan []int
		cost int64
		e    api.Errno
	}{
		{chapter(100, 2), of(1, 0, 2), 13, api.OK},
		{chapter(100, 2), of(0, 1, 2), 17, api.OK},
		{chapter(100, 2), of(0, 2, 1), 22, api.OK},
		{chapter(100, 2), of(1, 1, 1), 18, api.OK},
		{chapter(100, 2), of(2, 0, 1), 0, api.ErrFull},
		{chapter(100, 2), of(1, 2, 0), 0, api.ErrFull},
		{chapter(100, 2), of(1, 1, 2), 0, api.ErrFull},
		{chapter(100, 2), of(0, 0, 2), 0, api.ErrDry},
		{chapter(100, 2), of(1, 0, 1), 0, api.ErrDry},
		{chapter(100, 2), of(0, 0, 0), 0, api.ErrDry},
		// the first day decides
		{kind(100, 30, 3, rg(40, 50), days(20, 30, 30, 40, 20, 50), 5, 9, 4), of(0, 0, 3), 0, api.ErrDry},
		{chapter(60, 2), of(0, 2, 0), 0, api.ErrFull},
		{kind(20, 10, 2, rg(10, 10), days(20, 20, 0, 0), 1, 1), of(0, 2), 0, api.ErrDry},
		{kind(20, 10, 2, rg(10, 10), days(0, 0, 50, 50), 1, 1), of(2, 0), 0, api.ErrFull},
		{narrow, of(0, 2), 0, api.ErrDry},
		{narrow, of(1, 0), 0, api.ErrFull},
		{narrow, of(2, 2), 0, api.ErrFull},
		// on one day, more than the room and fewer than the need
		{wide, of(0), 0, api.ErrDry},
		{wide, of(1), 0, api.ErrDry},
		{wide, of(2), 0, api.ErrFull},
		{wide, of(3), 0, api.ErrFull},
		// not as described
		{chapter(100, 2), of(0, 0, 3), 0, api.ErrRange},
		{chapter(100, 2), of(2, 0, -1), 0, api.ErrRange},
		{chapter(100, 2), of(-1, 2, 2), 0, api.ErrRange},
		{chapter(100, 2), of(highest, 2, 2), 0, api.ErrRange},
		{chapter(100, 2), of(2, 2, lowest), 0, api.ErrRange},
		{chapter(100, 0), of(1, 0, 0), 0, api.ErrRange},
		{chapter(100, 2), of(1, 0), 0, api.ErrEqual},
		{chapter(100, 2), of(-1, 9), 0, api.ErrEqual},
		{chapter(100, 2), of(1, 0, 2, 0), 0, api.ErrEqual},
		{chapter(100, 2), make([]int, 5000), 0, api.ErrEqual},
		{chapter(100, 2), nil, 0, api.ErrEqual},
		// the greatest cost
		{kind(100000, 10000, 10, rg(0, 0), days(100000, 100000, 0, 0), 100000, 100000), of(10, 10), 2000000, api.OK},
		{kind(1, 1, 0, rg(0, 0), days(0, 0), 100000), of(0), 0, api.OK},
	} {
		n, e := order.CheckPlan(x.k, x.plan)
		want(t, e, x.e, i)
		want(t, n, x.cost, i)
	}
}

// P7.3: CheckPlan against the definition, for all plans of small kinds.
func TestCheckPlanAgainstTheDefinition(t *testing.T) {
	var d die
	counts := map[api.Errno]int{}
	for range 300 {
		k := d.middle()
		bounds := boundsOf(k)
		for plan := range plans(k) {
			wanted, sum := api.OK, cost(k, plan)
			for day := range plan {
				up := loads(plan[:day+1])
				if up > bounds[day].Hi {
					wanted = api.ErrFull
				} else if up < bounds[day].Lo {
					wanted = api.ErrDry
				}
				if wanted != api.OK {
					sum = 0
					break
				}
			}
			n, e := order.CheckPlan(k, plan)
			want(t, e, wanted, k, plan)
			want(t, n, sum, k, plan)
			counts[e]++
		}
	}
	if counts[api.OK] < 500 || counts[api.ErrFull] < 500 || counts[api.ErrDry] < 500 {
		t.Error(counts)
	}
}

// P7.4
func TestFollow(t *testing.T) {
	k := chapter(100, 2)
	// any sales, from an empty tank to a full one
	free := kind(100, 30, 3, rg(0, 100), days(0, 1000, 0, 1000), 1, 1)
	for i, x := range []struct {
		k     api.OrderKind
		plan  []int
		start int64
		sales []int64
		left  []int64
		e     api.Errno
	}{
		{k, of(1, 0, 2), 50, list(20, 30, 20), list(60, 30, 70), api.OK},
		{k, of(1, 0, 2), 40, list(30, 40, 50), list(40, 0, 10), api.OK},
		// a plan that is not good can fit
		{k, of(0, 0, 1), 50, list(20, 30, 20), list(30, 0, 10), api.OK},
		{k, of(2, 0, 0), 40, list(20, 30, 20), list(80, 50, 30), api.OK},
		{chapter(60, 2), of(0, 1, 1), 45, list(20, 30, 20), list(25, 25, 35), api.OK},
		// just full and just empty, and a litre more or less
		{free, of(2, 0), 40, list(0, 100), list(100, 0), api.OK},
		{free, of(2, 0), 41, list(0, 100), nil, api.ErrFull},
		{free, of(2, 0), 40, list(0, 101), nil, api.ErrDry},
		{free, of(0, 2), 50, list(10, 0), list(40, 100), api.OK},
		{free, of(0, 2), 50, list(9, 0), nil, api.ErrFull},
		{free, of(0, 0), 50, list(50, 0), list(0, 0), api.OK},
		{free, of(0, 0), 50, list(51, 0), nil, api.ErrDry},
		{free, of(0, 0), 100, list(0, 0), list(100, 100), api.OK},
		{free, of(0, 0), 0, list(0, 0), list(0, 0), api.OK},
		{free, of(3, 0), 0, list(90, 0), list(0, 0), api.OK},
		// loads come before sales
		{free, of(1, 1), 0, list(30, 30), list(0, 0), api.OK},
		{free, of(1, 0), 80, list(30, 0), nil, api.ErrFull},
		// on one day both, and the first day decides
		{free, of(3, 0), 11, list(1000, 0), nil, api.ErrFull},
		{free, of(0, 3), 50, list(1000, 0), nil, api.ErrDry},
		{free, of(3, 0), 50, list(0, 1000), nil, api.ErrFull},
		{free, of(0, 3), 50, list(0, 1000), nil, api.ErrFull},
		// not a truth
		{k, of(1, 0, 2), 51, list(20, 30, 20), nil, api.ErrRange},
		{k, of(1, 0, 2), 39, list(20, 30, 20), nil, api.ErrRange},
		{k, of(1, 0, 2), 40, list(20, 30, 51), nil, api.ErrRange},
		{k, of(1, 0, 2), 40, list(19, 30, 50), nil, api.ErrRange},
		{k, of(1, 0, 2), 40, list(20, 41, 50), nil, api.ErrRange},
		{k, of(1, 0, 2), lowest, list(20, 30, 20), nil, api.ErrRange},
		{k, of(1, 0, 2), highest, list(20, 30, 20), nil, api.ErrRange},
		{k, of(1, 0, 2), 40, list(20, 30, lowest), nil, api.ErrRange},
		{k, of(1, 0, 2), 40, list(highest, 30, 20), nil, api.ErrRange},
		{k, of(2, 2, 2), 50, list(20, 30, 51), nil, api.ErrRange},
		{k, of(0, 0, 0), 40, list(30, 40, 51), nil, api.ErrRange},
		// not a plan
		{k, of(3, 0, 2), 40, list(20, 30, 50), nil, api.ErrRange},
		{k, of(1, 0, -1), 40, list(20, 30, 50), nil, api.ErrRange},
		{k, of(2, 2, 3), 50, list(20, 30, 20), nil, api.ErrRange},
		{k, of(highest, 0, 2), 40, list(20, 30, 50), nil, api.ErrRange},
		{k, of(1, lowest, 2), 40, list(20, 30, 50), nil, api.ErrRange},
		// not a number for each day
		{k, of(1, 0), 40, list(20, 30, 50), nil, api.ErrEqual},
		{k, of(1, 0, 2), 40, list(20, 30), nil, api.ErrEqual},
		{k, of(1, 0, 2, 0), 40, list(20, 30, 50), nil, api.ErrEqual},
		{k, of(1, 0, 2), 40, list(20, 30, 50, 0), nil, api.ErrEqual},
		{k, of(1, 0), 40, list(20, 30), nil, api.ErrEqual},
		{k, of(-1, 0, 2), 40, list(20, 30), nil, api.ErrEqual},
		{k, of(1, 0), 99, list(-20, 30, 50), nil, api.ErrEqual},
		{k, nil, 40, list(20, 30, 50), nil, api.ErrEqual},
		{k, of(1, 0, 2), 40, nil, nil, api.ErrEqual},
		{k, make([]int, 5000), 40, make([]int64, 5000), nil, api.ErrEqual},
	} {
		left, e := order.Follow(x.k, x.plan, x.start, x.sales)
		want(t, e, x.e, i)
		wantList(t, left, x.left, i)
	}
}

// P7.4: Follow against the definition.
func TestFollowAgainstTheDefinition(t *testing.T) {
	var d die
	counts := map[api.Errno]int{}
	for range 1000 {
		k := d.good()
		plan, _ := best(t, k)
		for range 5 {
			start, sales := d.truth(k)
			other := d.near(k, plan)
			wanted, fault := follow(k, other, start, sales)
			left, e := order.Follow(k, other, start, sales)
			want(t, e, fault, k, other, start, sales)
			wantList(t, left, wanted, k, other, start, sales)
			counts[e]++
		}
	}
	if counts[api.OK] < 1000 || counts[api.ErrFull] < 200 || counts[api.ErrDry] < 200 {
		t.Error(counts)
	}
}

// P7.5
func TestBest(t *testing.T) {
	fives := days(5, 5, 5, 5, 5, 5)
	for i, x := range []struct {
		k    api.OrderKind
		plan []int
		cost int64
		e    api.Errno
	}{
		{chapter(100, 2), of(1, 0, 2), 13, api.OK},
		{chapter(100, 1), of(1, 1, 1), 18, api.OK},
		{chapter(100, 10), of(1, 0, 2), 13, api.OK},
		{chapter(100, 0), nil, 0, api.ErrPlan},
		{chapter(60, 2), nil, 0, api.ErrPlan},
		// of equal costs the first one in lexicographic order: as late as can be
		{kind(100, 10, 3, rg(0, 0), fives, 7, 7, 7), of(1, 0, 1), 14, api.OK},
		{kind(100, 10, 3, rg(10, 10), fives, 7, 7, 7), of(0, 0, 1), 7, api.OK},
		{kind(100, 10, 3, rg(10, 10), fives, 7, 8, 7), of(0, 0, 1), 7, api.OK},
		{kind(100, 10, 3, rg(10, 10), fives, 7, 7, 8), of(0, 1, 0), 7, api.OK},
		{kind(100, 10, 3, rg(10, 10), fives, 7, 8, 8), of(1, 0, 0), 7, api.OK},
		// loads that cost nothing come only if they must, or to be first
		{kind(100, 10, 3, rg(10, 10), fives, 0, 0, 0), of(0, 0, 1), 0, api.OK},
		{kind(100, 10, 3, rg(10, 10), fives, 0, 0, 1), of(0, 1, 0), 0, api.OK},
		{kind(100, 10, 3, rg(50, 50), fives, 0, 0, 0), of(0, 0, 0), 0, api.OK},
		// early if this costs less
		{kind(100, 10, 3, rg(0, 0), fives, 7, 6, 9), of(1, 1, 0), 13, api.OK},
		{kind(100, 10, 3, rg(0, 0), fives, 3, 6, 9), of(2, 0, 0), 6, api.OK},
		{kind(14, 10, 3, rg(0, 0), fives, 3, 6, 9), of(1, 0, 1), 12, api.OK},
		{kind(15, 10, 3, rg(0, 0), fives, 3, 6, 9), of(1, 1, 0), 9, api.OK},
		{kind(20, 10, 3, rg(0, 0), fives, 3, 6, 9), of(2, 0, 0), 6, api.OK},
		{kind(20, 10, 1, rg(0, 0), fives, 3, 6, 9), of(1, 1, 0), 9, api.OK},
		// none of the last days makes up for a day before
		{kind(100, 10, 1, rg(0, 0), days(10, 10, 20, 20, 0, 0), 1, 1, 1), nil, 0, api.ErrPlan},
		{kind(10, 20, 1, rg(0, 10), days(0, 1, 0, 40), 1, 1), nil, 0, api.ErrPlan},
		{kind(1, 1, 0, rg(0, 0), days(0, 0), 1), of(0), 0, api.OK},
		{kind(1, 1, 0, rg(0, 0), days(1, 1), 1), nil, 0, api.ErrPlan},
		{kind(1, 1, 1, rg(0, 0), days(1, 1), 1), of(1), 1, api.OK},
		{kind(1, 1, 1, rg(0, 1), days(1, 1), 1), nil, 0, api.ErrPlan},
		// at the limits
		{kind(100, 10, 10, rg(0, 0), days(100, 100, 100, 100), 2, 1), of(10, 10), 30, api.OK},
		{kind(100, 10, 10, rg(0, 0), slices.Repeat(days(100, 100), 20), slices.Repeat(list(100000), 20)...), slices.Repeat(of(10), 20), 20000000, api.OK},
		{kind(100000, 1, 10, rg(0, 0), slices.Repeat(days(10, 10), 20), slices.Repeat(list(1), 20)...), slices.Repeat(of(10), 20), 200, api.OK},
		{kind(100000, 1, 10, rg(0, 0), slices.Repeat(days(100000, 100000), 20), slices.Repeat(list(1), 20)...), nil, 0, api.ErrPlan},
	} {
		plan, n, e := order.Best(x.k)
		want(t, e, x.e, i)
		want(t, n, x.cost, i)
		wantList(t, plan, x.plan, i)
	}
}

// P7.5: Best against all plans of small kinds.
func TestBestAgainstAllPlans(t *testing.T) {
	var d die
	counts := map[bool]int{}
	for range 2000 {
		k := d.middle()
		wantBest(t, k, bestOfAll, counts)
	}
	if counts[true] < 500 || counts[false] < 500 {
		t.Error(counts)
	}
}

// P7.5: Best against another algorithm, for kinds of all sizes.
func TestBestOfGreatKinds(t *testing.T) {
	var d die
	counts := map[bool]int{}
	for range 2000 {
		k := d.great()
		wantBest(t, k, bestFromTheEnd, counts)
	}
	if counts[true] < 500 || counts[false] < 300 {
		t.Error(counts)
	}
}

// wantBest fails the test if Best returns another plan than a search does. It counts kinds with a good plan.
func wantBest(t *testing.T, k api.OrderKind, search func(api.OrderKind) ([]int, int64, bool), counts map[bool]int) {
	t.Helper()
	wanted, lowest, found := search(k)
	plan, n, e := order.Best(k)
	want(t, e == api.OK, found, k)
	want(t, e == api.ErrPlan, !found, k)
	want(t, n, lowest, k)
	wantList(t, plan, wanted, k)
	counts[found]++
}
