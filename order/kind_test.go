package order_test

import (
	"slices"
	"testing"

	"forecourt/api"
	"forecourt/order"
)

// many returns so many days without sales.
func many(n int) []api.Range { return make([]api.Range, n) }

// P7.1, and that all functions return the error of CheckKind before all others.
func TestCheckKind(t *testing.T) {
	none, day := rg(0, 0), days(0, 0)
	for i, x := range []struct {
		k api.OrderKind
		e api.Errno
	}{
		{chapter(100, 2), api.OK},
		// at the limits
		{kind(1, 1, 0, none, day, 0), api.OK},
		{kind(100000, 100000, 10, rg(0, 100000), slices.Repeat(days(0, 100000), 20), slices.Repeat(list(100000), 20)...), api.OK},
		{kind(100000, 1, 10, rg(100000, 100000), days(100000, 100000), 0), api.OK},
		{kind(5, 1, 0, rg(5, 5), days(100000, 100000), 100000), api.OK},
		// too few or too many days
		{kind(1, 1, 0, none, nil), api.ErrMany},
		{kind(0, 0, -1, rg(1, 0), nil, -1), api.ErrMany},
		{kind(1, 1, 0, none, many(21), make([]int64, 21)...), api.ErrMany},
		{kind(0, 1, 0, none, many(21), 1), api.ErrMany},
		{kind(1, 1, 0, none, days(slices.Repeat(list(-1), 42)...), make([]int64, 20)...), api.ErrMany},
		{kind(1, 1, 0, none, many(5000), make([]int64, 5000)...), api.ErrMany},
		// not as many costs
		{kind(1, 1, 0, none, day), api.ErrEqual},
		{kind(1, 1, 0, none, day, 1, 2), api.ErrEqual},
		{kind(0, 1, 0, none, days(1, 0), -1, -1), api.ErrEqual},
		{kind(1, 1, 0, none, many(20), make([]int64, 21)...), api.ErrEqual},
		{kind(1, 1, 0, none, day, make([]int64, 5000)...), api.ErrEqual},
		// the tank
		{kind(0, 1, 0, none, day, 1), api.ErrArg},
		{kind(-1, 1, 0, none, day, 1), api.ErrArg},
		{kind(100001, 1, 0, none, day, 1), api.ErrArg},
		{kind(lowest, 1, 0, none, day, 1), api.ErrArg},
		{kind(highest, 1, 0, none, day, 1), api.ErrArg},
		// the load
		{kind(1, 0, 0, none, day, 1), api.ErrArg},
		{kind(1, -1, 0, none, day, 1), api.ErrArg},
		{kind(1, 100001, 0, none, day, 1), api.ErrArg},
		{kind(1, lowest, 0, none, day, 1), api.ErrArg},
		{kind(1, highest, 0, none, day, 1), api.ErrArg},
		// the most loads
		{kind(1, 1, -1, none, day, 1), api.ErrArg},
		{kind(1, 1, 11, none, day, 1), api.ErrArg},
		{kind(1, 1, lowest, none, day, 1), api.ErrArg},
		{kind(1, 1, highest, none, day, 1), api.ErrArg},
		// the start
		{kind(5, 1, 0, rg(2, 6), day, 1), api.ErrArg},
		{kind(5, 1, 0, rg(6, 6), day, 1), api.ErrArg},
		{kind(5, 1, 0, rg(-1, 2), day, 1), api.ErrArg},
		{kind(5, 1, 0, rg(3, 2), day, 1), api.ErrArg},
		{kind(5, 1, 0, rg(highest, lowest), day, 1), api.ErrArg},
		{kind(5, 1, 0, rg(lowest, highest), day, 1), api.ErrArg},
		{kind(5, 1, 0, rg(3, 2), days(3, 2), -1), api.ErrArg},
		{kind(5, 0, 0, none, day, -1), api.ErrArg},
		// sales
		{kind(5, 1, 0, none, days(3, 2), 1), api.ErrRange},
		{kind(5, 1, 0, none, days(-1, 2), 1), api.ErrRange},
		{kind(5, 1, 0, none, days(2, 100001), 1), api.ErrRange},
		{kind(5, 1, 0, none, days(0, 0, 0, 100001), 1, 1), api.ErrRange},
		{kind(5, 1, 0, none, days(1, 0, 0, 0), 1, 1), api.ErrRange},
		{kind(5, 1, 0, none, days(highest, lowest), 1), api.ErrRange},
		{kind(5, 1, 0, none, days(lowest, highest), 1), api.ErrRange},
		// costs
		{kind(5, 1, 0, none, day, -1), api.ErrRange},
		{kind(5, 1, 0, none, day, 100001), api.ErrRange},
		{kind(5, 1, 0, none, days(0, 0, 0, 0), 0, -1), api.ErrRange},
		{kind(5, 1, 0, none, days(0, 0, 0, 0), 100001, 0), api.ErrRange},
		{kind(5, 1, 0, none, day, lowest), api.ErrRange},
		{kind(5, 1, 0, none, day, highest), api.ErrRange},
	} {
		want(t, order.CheckKind(x.k), x.e, i)
		if x.e == api.OK {
			continue
		}
		for _, g := range []given{{k: x.k}, {k: x.k, plan: of(-1), start: -1, sales: list(-1), values: list(-1)}, {k: x.k, plan: make([]int, 21), sales: make([]int64, 21), values: make([]int64, 21)}} {
			for j, result := range results(g) {
				if e, ok := result.(api.Errno); ok {
					want(t, e, x.e, i, j)
				}
			}
		}
	}
}

// P7.2
func TestBounds(t *testing.T) {
	for i, x := range []struct {
		k api.OrderKind
		l []api.Range
	}{
		{chapter(100, 2), days(0, 1, 1, 2, 3, 3)},
		{chapter(100, 0), days(0, 1, 1, 2, 3, 3)},
		{chapter(60, 2), days(0, 0, 1, 1, 3, 2)},
		{kind(1, 1, 0, rg(0, 0), days(0, 0), 0), days(0, 1)},
		// just enough, and one litre too little; just room, and one litre too much
		{kind(20, 10, 1, rg(10, 10), days(10, 10), 0), days(0, 1)},
		{kind(20, 10, 1, rg(9, 11), days(10, 10), 0), days(1, 0)},
		{kind(20, 10, 1, rg(0, 0), days(10, 10), 0), days(1, 2)},
		{kind(20, 10, 1, rg(0, 0), days(11, 11), 0), days(2, 2)},
		{kind(19, 10, 1, rg(0, 0), days(10, 10), 0), days(1, 1)},
		// the sales of a day make room only for the next one
		{kind(20, 10, 1, rg(20, 20), days(20, 20, 0, 0), 0, 0), days(0, 0, 0, 2)},
		{kind(20, 10, 1, rg(20, 20), days(9, 20, 1, 1, 0, 0), 0, 0, 0), days(0, 0, 1, 0, 1, 1)},
		// the need never falls below 0, and days without sales change nothing
		{kind(100, 10, 1, rg(100, 100), days(5, 9, 0, 0, 5, 91, 5, 5), 1, 1, 1, 1), days(0, 0, 0, 0, 0, 0, 1, 1)},
		// a load that does not fit
		{kind(10, 20, 1, rg(0, 10), days(0, 1, 0, 40), 1, 1), days(1, 0, 3, 0)},
		// the greatest numbers
		{kind(100000, 1, 10, rg(0, 0), slices.Repeat(days(100000, 100000), 3), 0, 0, 0), days(100000, 100000, 200000, 200000, 300000, 300000)},
		{kind(1, 1, 10, rg(0, 1), slices.Repeat(days(0, 100000), 3), 0, 0, 0), days(100000, 0, 200000, 0, 300000, 0)},
		{kind(1, 100000, 10, rg(1, 1), days(0, 100000, 0, 2), 0, 0), days(1, 0, 2, 0)},
	} {
		wantList(t, bounds(t, x.k), x.l, i)
	}
	k := kind(100000, 1, 10, rg(0, 0), slices.Repeat(days(100000, 100000), 20), make([]int64, 20)...)
	want(t, bounds(t, k)[19], rg(2000000, 2000000))
}

// P7.2: Bounds against the definition.
func TestBoundsAgainstTheDefinition(t *testing.T) {
	var d die
	for range 3000 {
		k := d.any()
		wantList(t, bounds(t, k), boundsOf(k), k)
	}
}
