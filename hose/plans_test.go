package hose_test

import (
	"slices"
	"testing"

	"forecourt/api"
	"forecourt/hose"
)

// P4.7
func TestPlan(t *testing.T) {
	small := chapter()
	small.Caps = litres(50)
	two := changes(5, 9, nil, -6, 6, -6)
	two.Start, two.Caps, two.Steps[1].Tank = litres(6, 1), litres(9, 7), 1
	for i, x := range []struct {
		j    api.HoseJob
		plan []int
		e    api.Errno
	}{
		{chapter(), of(0, 1, 2, 3), api.OK},
		{small, nil, api.ErrPlan},
		{two, nil, api.ErrPlan},
		{changes(3, 9, nil), nil, api.OK},
		{changes(5, 9, nil, 6, -4, 2), of(1, 0, 2), api.OK},
		{changes(5, 9, nil, 2, 6, -4), of(0, 2, 1), api.OK},
		{changes(5, 9, pairs(1, 2), 2, 6, -4), nil, api.ErrPlan},
		{changes(0, 9, pairs(0, 1), -1, 1), nil, api.ErrPlan},
		{changes(0, 9, nil, -1, 1), of(1, 0), api.OK},
		// exactly full, exactly empty, and one litre beyond
		{changes(5, 9, nil, 4), of(0), api.OK},
		{changes(5, 9, nil, 5), nil, api.ErrPlan},
		{changes(5, 9, nil, -5), of(0), api.OK},
		{changes(5, 9, nil, -6), nil, api.ErrPlan},
		// what is first at first leads to no plan later
		{changes(4, 9, nil, 5, -4, -5, 4), of(0, 1, 2, 3), api.OK},
		{changes(4, 9, nil, 3, 5, -7, -5), of(0, 2, 1, 3), api.OK},
		{changes(0, 9, pairs(3, 0), 9, 9, -9, -9), of(1, 3, 0, 2), api.OK},
		{changes(0, 0, nil, make([]int64, 12)...), of(0, 1, 2, 3, 4, 5, 6, 7, 8, 9, 10, 11), api.OK},
	} {
		plan, e := hose.Plan(x.j)
		want(t, e, x.e, i)
		wantList(t, plan, x.plan, i)
	}
}

// P4.7: small jobs against all orders.
func TestPlanAgainstAllOrders(t *testing.T) {
	var d die
	counts := map[api.Errno]int{}
	later := 0
	for range 3000 {
		j := d.small()
		plan, e := hose.Plan(j)
		counts[e]++
		all := orders(j)
		i := slices.IndexFunc(all, func(order []int) bool { return isPlan(j, order) })
		if i < 0 {
			want(t, e, api.ErrPlan, j)
			want(t, len(plan), 0, j)
			continue
		}
		want(t, e, api.OK, j)
		wantList(t, plan, all[i], j)
		later += min(i, 1)
	}
	if counts[api.OK] < 300 || counts[api.ErrPlan] < 300 || later < 100 {
		t.Error(counts, later)
	}
}

// P4.7: in jobs of the greatest size there is a plan, as one is known, and none that comes before the one returned is known.
func TestPlanOfGreatJobs(t *testing.T) {
	var d die
	for range 300 {
		j, known := d.great()
		for i := range known {
			s := &j.Steps[known[i]]
			now := level(j, s.Tank, known[:i])
			s.Change = d.roll(max(-100000, -now), min(100000, j.Caps[s.Tank]-now))
		}
		want(t, isPlan(j, known), true, j, known)
		plan, e := hose.Plan(j)
		want(t, e, api.OK, j)
		want(t, hose.CheckOrder(j, plan), api.OK, j, plan)
		want(t, isPlan(j, plan), true, j, plan)
		want(t, slices.Compare(plan, known) <= 0, true, j, plan, known)
	}
}

// P4.8: step 2 flushes hose 1; steps 0, 1 and 3 use it with the kinds 1, 2 and 1.
func flushed(before ...int) api.HoseJob {
	return filled(pairs(before...), 1, 1, 1, 2, 1, 0, 1, 1, 2, 3)
}

// P4.8
func TestMixed(t *testing.T) {
	for i, x := range []struct {
		j   api.HoseJob
		two [2]int
		e   api.Errno
	}{
		{chapter(), [2]int{1, 3}, api.OK},
		{flushed(), [2]int{0, 1}, api.OK},
		{flushed(0, 2, 2, 1), [2]int{1, 3}, api.OK},
		{flushed(0, 2, 2, 1, 3, 2), [2]int{}, api.ErrNone},
		{flushed(0, 1, 1, 3), [2]int{0, 1}, api.OK},
		{flushed(0, 2, 2, 1, 3, 1, 0, 3), [2]int{3, 1}, api.OK},
		{flushed(1, 0, 1, 3), [2]int{1, 0}, api.OK},
		{changes(0, 9, nil), [2]int{}, api.ErrNone},
		{changes(0, 9, nil, 1, 2), [2]int{}, api.ErrNone},
		{filled(nil, 1, 1, 2, 2), [2]int{}, api.ErrNone},
		{filled(nil, 1, 1, 1, 1), [2]int{}, api.ErrNone},
		{filled(nil, 1, 0, 1, 1), [2]int{}, api.ErrNone},
		{filled(nil, 4, 5, 4, 4), [2]int{0, 1}, api.OK},
		{filled(pairs(1, 0), 4, 5, 4, 4), [2]int{1, 0}, api.OK},
		// the kind between them is that of one of them, and so 1 and 2 meet, but not 0 and 2
		{filled(pairs(0, 1, 1, 2), 1, 1, 1, 1, 1, 2), [2]int{1, 2}, api.OK},
	} {
		two, e := hose.Mixed(x.j)
		want(t, e, x.e, i)
		want(t, two, x.two, i)
	}
}

// checkMix checks what Mix returns of two steps, of which it is known whether they can meet.
func checkMix(t *testing.T, j api.HoseJob, two [2]int, can bool) {
	t.Helper()
	order, e := hose.Mix(j, two)
	if !can {
		want(t, e, api.ErrNone, j, two)
		want(t, len(order), 0, j, two)
		return
	}
	want(t, e, api.OK, j, two)
	want(t, hose.CheckOrder(j, order), api.OK, j, two, order)
	want(t, isOrder(j, order), true, j, two, order)
	want(t, meets(j, order, two), true, j, two, order)
}

// P4.8
func TestMix(t *testing.T) {
	for _, x := range []struct {
		j   api.HoseJob
		two [2]int
		can bool
	}{
		{chapter(), [2]int{1, 3}, true},
		{chapter(), [2]int{3, 1}, true},
		{chapter(), [2]int{1, 1}, false},
		{chapter(), [2]int{0, 1}, false},
		{chapter(), [2]int{0, 2}, false},
		{flushed(), [2]int{0, 3}, false},
		{flushed(), [2]int{0, 2}, false},
		{flushed(), [2]int{2, 0}, false},
		{flushed(), [2]int{1, 4}, false},
		{flushed(0, 2, 2, 1), [2]int{0, 1}, false},
		{flushed(0, 2, 2, 1), [2]int{1, 0}, false},
		{flushed(2, 3, 4, 1, 0, 4), [2]int{0, 1}, true},
		{flushed(2, 3, 4, 1, 0, 4), [2]int{3, 1}, true},
		{flushed(0, 4, 4, 3, 3, 1), [2]int{0, 1}, false},
	} {
		checkMix(t, x.j, x.two, x.can)
	}
	for _, two := range pairs(1, 4, 4, 1, -1, 3, 3, -1, 4, 4, least, most) {
		order, e := hose.Mix(chapter(), two)
		want(t, e, api.ErrArg, two)
		want(t, len(order), 0, two)
	}
	_, e := hose.Mix(changes(0, 9, nil), [2]int{})
	want(t, e, api.ErrArg)
}

// P4.8: all two steps of small jobs against all orders.
func TestMixAgainstAllOrders(t *testing.T) {
	var d die
	counts := map[api.Errno]int{}
	for range 500 {
		j := d.small()
		all := orders(j)
		wanted, e := [2]int{}, api.ErrNone
		for _, two := range twos(j) {
			can := canMeet(j, all, two)
			checkMix(t, j, two, can)
			if can && e != api.OK {
				wanted, e = two, api.OK
			}
		}
		two, f := hose.Mixed(j)
		want(t, f, e, j)
		want(t, two, wanted, j)
		counts[e]++
	}
	if counts[api.OK] < 100 || counts[api.ErrNone] < 100 {
		t.Error(counts)
	}
}
