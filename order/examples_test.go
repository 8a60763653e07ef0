package order_test

import (
	"testing"

	"forecourt/api"
	"forecourt/order"
)

// The examples of the chapter.
func TestExamples(t *testing.T) {
	k := chapter(100, 2)
	wantList(t, bounds(t, k), days(0, 1, 1, 2, 3, 3))
	plan, n := best(t, k)
	wantList(t, plan, of(1, 0, 2))
	want(t, n, 13)
	for _, x := range []struct {
		plan []int
		cost int64
		e    api.Errno
	}{
		{of(0, 1, 2), 17, api.OK},
		{of(2, 0, 1), 0, api.ErrFull},
		{of(0, 0, 2), 0, api.ErrDry},
		{of(0, 0, 3), 0, api.ErrRange},
	} {
		n, e := order.CheckPlan(k, x.plan)
		want(t, e, x.e, x.plan)
		want(t, n, x.cost, x.plan)
	}
	left, e := order.Follow(k, of(1, 0, 2), 50, list(20, 30, 20))
	want(t, e, api.OK)
	wantList(t, left, list(60, 30, 70))
	want(t, bound(t, k, list(5, 9, 4)), 13)
	want(t, bound(t, k, list(5, 5, 5)), 13)
	want(t, bound(t, k, list(4, 4, 4)), 12)
	wantClash(t, k, 0, 0, api.ErrNone)
	wantClash(t, chapter(100, 0), -1, 1, api.OK)
	wantClash(t, chapter(60, 2), 2, 2, api.OK)
}

// DOC.md's example 7: three days take loads of 1, 0 and 2, for 13, and no good plan costs less.
func TestNoGoodPlanOfTheExampleCostsLess(t *testing.T) {
	k := chapter(100, 2)
	for plan := range plans(k) {
		n, e := order.CheckPlan(k, plan)
		want(t, e == api.OK, isGood(k, plan), plan)
		want(t, e == api.OK && n < 13, false, plan)
	}
}
