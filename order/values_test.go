package order_test

import (
	"slices"
	"testing"

	"forecourt/api"
	"forecourt/order"
)

// wantClash fails the test if Clash does not return these days.
func wantClash(t *testing.T, k api.OrderKind, one, two int, e api.Errno, about ...any) {
	t.Helper()
	a, b, f := order.Clash(k)
	want(t, f, e, about...)
	want(t, [2]int{a, b}, [2]int{one, two}, about...)
}

// P7.6
func TestClash(t *testing.T) {
	for i, x := range []struct {
		k        api.OrderKind
		one, two int
		e        api.Errno
	}{
		{chapter(100, 2), 0, 0, api.ErrNone},
		{chapter(100, 1), 0, 0, api.ErrNone},
		{chapter(100, 0), -1, 1, api.OK},
		{chapter(60, 2), 2, 2, api.OK},
		{kind(1, 1, 0, rg(0, 0), days(0, 0), 1), 0, 0, api.ErrNone},
		// too much is sold from the beginning on: on the first day, and later
		{kind(100, 10, 1, rg(0, 0), days(11, 11, 0, 0), 1, 1), -1, 0, api.OK},
		{kind(100, 10, 1, rg(0, 0), days(10, 10, 10, 10), 1, 1), 0, 0, api.ErrNone},
		{kind(100, 10, 1, rg(0, 0), days(10, 10, 20, 20, 0, 0), 1, 1, 1), -1, 1, api.OK},
		{kind(100, 10, 1, rg(95, 95), days(5, 5, 20, 95, 0, 30), 1, 1, 1), -1, 2, api.OK},
		// a day that contradicts itself
		{kind(20, 10, 2, rg(9, 11), days(10, 10, 0, 0), 1, 1), 0, 0, api.OK},
		{kind(1, 1, 1, rg(0, 1), days(1, 1), 1), 0, 0, api.OK},
		{kind(20, 10, 2, rg(10, 10), days(0, 0, 0, 10, 0, 15), 1, 1, 1), 2, 2, api.OK},
		// a day has too little room for all that a later one needs
		{kind(100, 10, 3, rg(95, 95), days(5, 5, 20, 95, 0, 60), 1, 1, 1), 0, 2, api.OK},
		{kind(20, 10, 1, rg(20, 20), days(20, 20, 20, 20), 1, 1), 0, 1, api.OK},
		{kind(20, 10, 2, rg(20, 20), days(20, 20, 20, 20), 1, 1), 0, 0, api.ErrNone},
		{kind(30, 10, 1, rg(20, 20), days(0, 0, 20, 20, 20, 20), 1, 1, 1), 0, 0, api.ErrNone},
		{kind(29, 10, 2, rg(20, 20), days(0, 0, 20, 20, 20, 20, 10, 10), 1, 1, 1, 1), 0, 0, api.ErrNone},
		{kind(29, 10, 1, rg(20, 20), days(0, 0, 20, 20, 20, 20, 10, 10), 1, 1, 1, 1), 1, 2, api.OK},
		{kind(20, 10, 2, rg(10, 10), days(0, 0, 50, 50), 1, 1), 0, 1, api.OK},
		{kind(20, 10, 2, rg(0, 0), days(0, 0, 40, 40), 1, 1), 1, 1, api.OK},
		// of several pairs the first one
		{kind(10, 20, 1, rg(0, 10), days(0, 1, 0, 40), 1, 1), -1, 1, api.OK},
		{kind(10, 20, 2, rg(0, 10), days(0, 1, 0, 40), 1, 1), 0, 0, api.OK},
		{kind(10, 20, 0, rg(0, 10), days(0, 1, 0, 40), 1, 1), -1, 0, api.OK},
	} {
		wantClash(t, x.k, x.one, x.two, x.e, i)
	}
}

// P7.6: Clash against the definition.
func TestClashAgainstTheDefinition(t *testing.T) {
	var d die
	counts := map[[2]int]int{}
	for range 5000 {
		k := d.any()
		one, two, found := clashOf(k)
		wanted := api.ErrNone
		if found {
			wanted = api.OK
		}
		wantClash(t, k, one, two, wanted, k)
		if found {
			counts[[2]int{min(one, 1), min(two-one, 1)}]++
		}
	}
	if counts[[2]int{-1, 1}] < 100 || counts[[2]int{0, 0}] < 100 || counts[[2]int{0, 1}] < 20 || counts[[2]int{1, 0}] < 20 || counts[[2]int{1, 1}] < 20 {
		t.Error(counts)
	}
}

// P7.7
func TestCheckValues(t *testing.T) {
	k := chapter(100, 2)
	for i, x := range []struct {
		values []int64
		bound  int64
		e      api.Errno
	}{
		{list(5, 9, 4), 13, api.OK},
		{list(5, 5, 5), 13, api.OK},
		{list(4, 4, 4), 12, api.OK},
		{list(0, 0, 0), 0, api.OK},
		// more than on the next day: the need; less: the room; more than it costs: the most loads
		{list(1, 0, 0), 0, api.OK},
		{list(0, 1, 0), 0, api.OK},
		{list(0, 0, 1), 1, api.OK},
		{list(0, 9, 0), 0, api.OK},
		{list(9, 0, 0), -8, api.OK},
		{list(6, 0, 0), -2, api.OK},
		{list(5, 10, 4), 11, api.OK},
		{list(0, 0, 9), -1, api.OK},
		{list(100000, 100000, 100000), -299964, api.OK},
		{list(100000, 0, 100000), -99982 - 2*99995 - 1*100000 + 99982 + 300000 - 2*99996 - 200000 + 200000 - 100000 + 100000 - 100000, api.OK},
		{list(5, 9, 100001), 0, api.ErrRange},
		{list(-1, 9, 4), 0, api.ErrRange},
		{list(5, lowest, 4), 0, api.ErrRange},
		{list(5, highest, 4), 0, api.ErrRange},
		{list(5, 9), 0, api.ErrEqual},
		{list(-5, 9), 0, api.ErrEqual},
		{list(5, 9, 4, 0), 0, api.ErrEqual},
		{make([]int64, 5000), 0, api.ErrEqual},
		{nil, 0, api.ErrEqual},
	} {
		n, e := order.CheckValues(k, x.values)
		want(t, e, x.e, i)
		want(t, n, x.bound, i)
	}
	// at the limits
	twenty := slices.Repeat(days(100000, 100000), 20)
	k = kind(100000, 1, 10, rg(0, 0), twenty, make([]int64, 20)...)
	want(t, bound(t, k, slices.Repeat(list(100000), 20)), 2000000*100000-20*10*100000)
	k.Start = rg(0, 100000)
	want(t, bound(t, k, slices.Repeat(list(0, 100000), 10)), boundOf(k, slices.Repeat(list(0, 100000), 10)))
}

// P7.7: CheckValues against the definition.
func TestCheckValuesAgainstTheDefinition(t *testing.T) {
	var d die
	signs := map[bool]int{}
	for range 2000 {
		k := d.any()
		values := d.values(k)
		n := bound(t, k, values)
		want(t, n, boundOf(k, values), k, values)
		signs[n < 0]++
	}
	if signs[true] < 300 || signs[false] < 300 {
		t.Error(signs)
	}
}

// P7.7: the bound of Values is what a best plan costs.
func TestValues(t *testing.T) {
	fives := days(5, 5, 5, 5, 5, 5)
	for i, x := range []struct {
		k    api.OrderKind
		cost int64
		e    api.Errno
	}{
		{chapter(100, 2), 13, api.OK},
		{chapter(100, 1), 18, api.OK},
		{chapter(100, 10), 13, api.OK},
		{chapter(100, 0), 0, api.ErrPlan},
		{chapter(60, 2), 0, api.ErrPlan},
		{kind(15, 10, 3, rg(0, 0), fives, 3, 6, 9), 9, api.OK},
		{kind(20, 10, 1, rg(0, 0), fives, 3, 6, 9), 9, api.OK},
		{kind(100, 10, 3, rg(50, 50), fives, 0, 0, 0), 0, api.OK},
		{kind(100, 10, 3, rg(0, 0), fives, 100000, 100000, 100000), 200000, api.OK},
		{kind(1, 1, 0, rg(0, 0), days(0, 0), 1), 0, api.OK},
		{kind(1, 1, 0, rg(0, 0), days(1, 1), 1), 0, api.ErrPlan},
		{kind(1, 1, 1, rg(0, 1), days(1, 1), 1), 0, api.ErrPlan},
		{kind(100, 10, 10, rg(0, 0), slices.Repeat(days(100, 100), 20), slices.Repeat(list(100000), 20)...), 20000000, api.OK},
	} {
		values, e := order.Values(x.k)
		want(t, e, x.e, i)
		if e == api.OK {
			want(t, boundOf(x.k, values), x.cost, i, values)
			want(t, bound(t, x.k, values), x.cost, i, values)
		} else {
			want(t, len(values), 0, i)
		}
	}
}

// P7.7: so it is for kinds of all sizes.
func TestValuesOfAllSizes(t *testing.T) {
	var d die
	counts := map[bool]int{}
	for range 3000 {
		k := d.any()
		_, lowest, found := bestFromTheEnd(k)
		values, e := order.Values(k)
		counts[found]++
		if !found {
			want(t, e, api.ErrPlan, k)
			want(t, len(values), 0, k)
			continue
		}
		want(t, e, api.OK, k)
		want(t, bound(t, k, values), lowest, k, values)
		want(t, boundOf(k, values), lowest, k, values)
	}
	if counts[true] < 1000 || counts[false] < 500 {
		t.Error(counts)
	}
}
