package order_test

import (
	"slices"
	"testing"

	"forecourt/api"
	"forecourt/order"
)

// P7.8: CheckPlan tells just the plans that fit all truths, by looking at all of them.
func TestGoodPlansFitEachTruth(t *testing.T) {
	var d die
	counts := map[bool]int{}
	for range 600 {
		k := d.small()
		for plan := range plans(k) {
			_, e := order.CheckPlan(k, plan)
			want(t, e == api.OK, isGood(k, plan), k, plan)
			counts[e == api.OK]++
		}
	}
	if counts[true] < 500 || counts[false] < 500 {
		t.Error(counts)
	}
}

// P7.8: so does Follow, in great kinds too, with the truth at the ends that a plan does not fit.
func TestFollowOfPlans(t *testing.T) {
	var d die
	counts := map[api.Errno]int{}
	for range 1000 {
		k := d.good()
		plan, _ := best(t, k)
		for range 5 {
			start, sales := d.truth(k)
			_, e := order.Follow(k, plan, start, sales)
			want(t, e, api.OK, k, plan, start, sales)
			other := d.near(k, plan)
			_, e = order.CheckPlan(k, other)
			want(t, fitsTheEnds(t, k, other), e == api.OK, k, other)
			counts[e]++
		}
	}
	if counts[api.OK] < 500 || counts[api.ErrFull] < 200 || counts[api.ErrDry] < 200 {
		t.Error(counts)
	}
}

// fitsTheEnds reports whether a plan fits the truths with which most, and least, is in the tank.
func fitsTheEnds(t *testing.T, k api.OrderKind, plan []int) bool {
	t.Helper()
	var least, greatest []int64
	for _, r := range k.Sales {
		least, greatest = append(least, r.Lo), append(greatest, r.Hi)
	}
	_, full := follow(k, plan, k.Start.Hi, least)
	_, dry := follow(k, plan, k.Start.Lo, greatest)
	_, e := order.Follow(k, plan, k.Start.Hi, least)
	want(t, e, full, k, plan)
	_, e = order.Follow(k, plan, k.Start.Lo, greatest)
	want(t, e, dry, k, plan)
	return full != api.ErrFull && dry != api.ErrDry
}

// P7.9: no good plan costs less than the bound of any values, and a best one just that of Values.
func TestNoGoodPlanCostsLessThanABound(t *testing.T) {
	var d die
	tight := 0
	for range 1000 {
		k := d.good()
		plan, n := best(t, k)
		want(t, bound(t, k, valuesOf(t, k)), n, k)
		for range 5 {
			values := d.values(k)
			b := bound(t, k, values)
			want(t, b <= n, true, k, values)
			if b == n {
				tight++
			}
			if c, e := order.CheckPlan(k, d.near(k, plan)); e == api.OK {
				want(t, b <= c && n <= c, true, k, values)
			}
		}
	}
	if tight < 100 {
		t.Error(tight)
	}
}

// P7.9: values that are near to the ones that prove a best plan have no greater bound.
func TestValuesAreBest(t *testing.T) {
	var d die
	for range 500 {
		k := d.good()
		_, n := best(t, k)
		values := valuesOf(t, k)
		for range 5 {
			near := slices.Clone(values)
			for range d.roll(1, 3) {
				i := d.index(len(near))
				near[i] = min(max(near[i]+d.roll(-2, 2), 0), api.MaxOrderCost)
			}
			want(t, bound(t, k, near) <= n, true, k, near)
		}
	}
}

// P7.10: either there is a plan that is good, by looking at all of them, or there are days that contradict each other.
func TestEitherAPlanOrAClash(t *testing.T) {
	var d die
	counts := map[bool]int{}
	for i := range 3000 {
		k := d.middle()
		if i%3 == 0 {
			k = d.great()
		}
		_, _, e := order.Best(k)
		one, two, f := order.Clash(k)
		_, g := order.Values(k)
		want(t, g, e, k)
		counts[e == api.OK]++
		if e == api.OK {
			want(t, f, api.ErrNone, k)
			continue
		}
		want(t, e, api.ErrPlan, k)
		want(t, f, api.OK, k)
		l := bounds(t, k)
		room := int64(0)
		if one >= 0 {
			room = l[one].Hi
		}
		want(t, -1 <= one && one <= two && 0 <= two && l[two].Lo > room+int64(k.Most*(two-one)), true, k, one, two)
	}
	if counts[true] < 1000 || counts[false] < 500 {
		t.Error(counts)
	}
}

// narrower returns a kind with a narrower Start, narrower Sales, a greater Cap or a greater Most.
func (d *die) narrower(k api.OrderKind) api.OrderKind {
	return changed(k, func(k *api.OrderKind) {
		switch d.roll(0, 3) {
		case 0:
			k.Start = d.in(k.Start, k.Start.Hi)
		case 1:
			for range d.roll(1, 3) {
				r := &k.Sales[d.index(len(k.Sales))]
				*r = d.in(*r, r.Hi)
			}
		case 2:
			k.Cap = d.roll(k.Cap, min(2*k.Cap, api.MaxOrderLitres))
		case 3:
			k.Most = int(d.roll(int64(k.Most), api.MaxOrderLoads))
		}
	})
}

// P7.11
func TestNarrowerKinds(t *testing.T) {
	var d die
	less := 0
	for range 1000 {
		k := d.good()
		plan, before := best(t, k)
		for range 5 {
			other := d.narrower(k)
			n, e := order.CheckPlan(other, plan)
			want(t, e, api.OK, k, other, plan)
			want(t, n, before, k, other, plan)
			near := d.near(k, plan)
			if _, e := order.CheckPlan(k, near); e == api.OK {
				_, e := order.CheckPlan(other, near)
				want(t, e, api.OK, k, other, near)
			}
			_, now := best(t, other)
			want(t, now <= before, true, k, other)
			if now < before {
				less++
			}
		}
	}
	if less < 100 {
		t.Error(less)
	}
}

// P7.12: all costs are as many times as great.
func TestCostsManyTimesAsGreat(t *testing.T) {
	var d die
	for range 500 {
		k := d.good()
		plan, before := best(t, k)
		times := d.roll(0, api.MaxOrderCost/max(slices.Max(k.Costs), 1))
		other := changed(k, func(k *api.OrderKind) {
			for i := range k.Costs {
				k.Costs[i] *= times
			}
		})
		now, n := best(t, other)
		want(t, n, before*times, k, times)
		if times > 0 {
			wantList(t, now, plan, k, times)
		}
	}
}

// P7.12: each cost is greater by as much.
func TestCostsGreaterByAsMuch(t *testing.T) {
	var d die
	for range 500 {
		k := d.good()
		plan, before := best(t, k)
		more := d.roll(0, api.MaxOrderCost-slices.Max(k.Costs))
		if d.roll(0, 1) == 0 {
			more = min(more, 3)
		}
		now, n := best(t, changed(k, func(k *api.OrderKind) {
			for i := range k.Costs {
				k.Costs[i] += more
			}
		}))
		want(t, n-before >= more*loads(now) && n-before <= more*loads(plan), true, k, more)
	}
}

// P7.12: a greater cost of one day.
func TestAGreaterCostOfADay(t *testing.T) {
	var d die
	for range 1000 {
		k := d.good()
		_, before := best(t, k)
		day := d.index(len(k.Costs))
		more := d.roll(0, api.MaxOrderCost-k.Costs[day])
		if d.roll(0, 1) == 0 {
			more = min(more, 3)
		}
		_, now := best(t, changed(k, func(k *api.OrderKind) { k.Costs[day] += more }))
		want(t, now >= before, true, k, day, more)
	}
}

// P7.13
func TestTheFirstDayHasNoLoads(t *testing.T) {
	var d die
	found := 0
	for range 2000 {
		k := d.good()
		plan, _ := best(t, k)
		if len(plan) == 1 {
			continue
		}
		later := changed(k, func(k *api.OrderKind) {
			k.Start = rg(k.Start.Lo-k.Sales[0].Hi, k.Start.Hi-k.Sales[0].Lo)
			k.Sales, k.Costs = k.Sales[1:], k.Costs[1:]
		})
		for range 3 {
			plan := d.near(k, plan)
			if _, e := order.CheckPlan(k, plan); e != api.OK || plan[0] != 0 {
				continue
			}
			_, e := order.CheckPlan(later, plan[1:])
			want(t, e, api.OK, k, plan)
			found++
		}
	}
	if found < 500 {
		t.Error(found)
	}
}
