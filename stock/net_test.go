package stock_test

import (
	"slices"
	"testing"

	"forecourt/api"
	"forecourt/stock"
)

// many returns a net with so many flows.
func many(tanks, flows int) api.StockNet {
	return net(tanks, slices.Repeat([]int64{0, 1, 0, 100000}, flows)...)
}

// bad returns nets that are not valid, with their errors.
func bad() []struct {
	n api.StockNet
	e api.Errno
} {
	return []struct {
		n api.StockNet
		e api.Errno
	}{
		{net(0), api.ErrArg},
		{net(-1), api.ErrArg},
		{net(13), api.ErrArg},
		{net(least), api.ErrArg},
		{net(most), api.ErrArg},
		{many(13, 41), api.ErrArg},
		{net(0, 0, 9, 5, 1), api.ErrArg},
		{many(1, 41), api.ErrMany},
		{many(12, 5000), api.ErrMany},
		{net(1, slices.Repeat([]int64{0, 7, 5, 1}, 41)...), api.ErrMany},
		{net(1, 0, 2, 0, 0), api.ErrRange},
		{net(1, 2, 0, 0, 0), api.ErrRange},
		{net(1, 0, -1, 0, 0), api.ErrRange},
		{net(1, -1, 0, 0, 0), api.ErrRange},
		{net(12, 13, 0, 0, 0), api.ErrRange},
		{net(3, 2, 2, 0, 0), api.ErrRange},
		{net(3, 0, 0, 0, 0), api.ErrRange},
		{net(1, 0, 1, 1, 0), api.ErrRange},
		{net(1, 0, 1, -1, 0), api.ErrRange},
		{net(1, 0, 1, -2, -1), api.ErrRange},
		{net(1, 0, 1, 0, 100001), api.ErrRange},
		{net(1, 0, 1, 100001, 100001), api.ErrRange},
		{net(1, 0, 1, least, most), api.ErrRange},
		{net(1, 0, 1, 0, 5, 1, 0, 0, 5, 0, 1, 6, 5), api.ErrRange},
		{net(1, most, least, 0, 5), api.ErrRange},
	}
}

// P3.1
func TestCheckNet(t *testing.T) {
	for i, n := range []api.StockNet{
		chapter(), lost(), net(1), net(12), many(1, 40), many(12, 40),
		net(12, 12, 0, 0, 100000), net(12, 0, 12, 100000, 100000), net(2, 1, 2, 7, 7),
	} {
		want(t, stock.CheckNet(n), api.OK, i)
	}
	for i, x := range bad() {
		want(t, stock.CheckNet(x.n), x.e, i)
	}
}

// P3.1 to P3.5: the error of CheckNet comes before all others, and with it nothing else is returned.
func TestErrorOfTheNetComesFirst(t *testing.T) {
	for i, x := range bad() {
		want(t, stock.CheckTruth(x.n, []int64{-1}), x.e, i)
		truth, e := stock.Truth(x.n)
		want(t, e, x.e, i)
		want(t, len(truth), 0, i)
		by, e := stock.CheckShort(x.n, []int{5, 5})
		want(t, e, x.e, i)
		want(t, by, 0, i)
		set, e := stock.Short(x.n)
		want(t, e, x.e, i)
		want(t, len(set), 0, i)
		for _, flow := range []int{-1, 0, 99} {
			want(t, span(x.n, flow), spanOf{e: x.e}, i)
			for _, high := range []bool{false, true} {
				want(t, bound(x.n, flow, high, []int{5, 5}), boundOf{e: x.e}, i)
				truth, e := stock.Reach(x.n, flow, high)
				want(t, e, x.e, i)
				want(t, len(truth), 0, i)
				set, e := stock.Bound(x.n, flow, high)
				want(t, e, x.e, i)
				want(t, len(set), 0, i)
			}
		}
	}
}

// P3.2
func TestCheckTruth(t *testing.T) {
	for i, x := range []struct {
		n     api.StockNet
		truth []int64
		e     api.Errno
	}{
		{chapter(), []int64{105, 50, 55, 50}, api.OK},
		{chapter(), []int64{100, 45, 55, 45}, api.OK},
		{chapter(), []int64{110, 50, 60, 50}, api.OK},
		{chapter(), []int64{105, 45, 55, 45}, api.ErrSum},
		{chapter(), []int64{105, 50, 55, 51}, api.ErrSum},
		{chapter(), []int64{111, 50, 61, 50}, api.ErrRange},
		{chapter(), []int64{99, 45, 54, 45}, api.ErrRange},
		// a number that is not in its range behind a tank that does not agree
		{chapter(), []int64{105, 45, 55, 71}, api.ErrRange},
		{chapter(), []int64{105, 50, 55}, api.ErrEqual},
		{chapter(), []int64{105, 50, 55, 50, 0}, api.ErrEqual},
		{chapter(), []int64{-1, -1, -1}, api.ErrEqual},
		{chapter(), nil, api.ErrEqual},
		{chapter(), []int64{least, most, 55, 50}, api.ErrRange},
		{net(1), nil, api.OK},
		{net(1), []int64{}, api.OK},
		{net(1), []int64{0}, api.ErrEqual},
		{many(1, 40), make([]int64, 5000), api.ErrEqual},
		// only the last one of 12 tanks does not agree
		{net(12, 12, 0, 1, 2), []int64{1}, api.ErrSum},
		// as many litres come out of the tanks as go into them, but out of others
		{net(2, 0, 1, 5, 5, 2, 0, 5, 5), []int64{5, 5}, api.ErrSum},
		{net(2, 1, 2, 0, 9, 2, 1, 0, 9), []int64{7, 7}, api.OK},
		{net(2, 1, 2, 0, 9, 2, 1, 0, 9), []int64{7, 8}, api.ErrSum},
	} {
		want(t, stock.CheckTruth(x.n, x.truth), x.e, i)
	}
}

// P3.2: CheckTruth against the definition, for all litres near to the ranges of small nets.
func TestCheckTruthAgainstTheDefinition(t *testing.T) {
	var d die
	counts := map[api.Errno]int{}
	for range 20000 {
		n := d.small()
		truth := make([]int64, len(n.Flows))
		in := true
		for i, f := range n.Flows {
			truth[i] = d.roll(f.Litres.Lo, f.Litres.Hi)
			if d.roll(0, 20) == 0 {
				truth[i] = d.roll(f.Litres.Lo-1, f.Litres.Hi+1)
			}
			in = in && f.Litres.Lo <= truth[i] && truth[i] <= f.Litres.Hi
		}
		wanted := api.OK
		switch {
		case !in:
			wanted = api.ErrRange
		case !isTruth(n, truth):
			wanted = api.ErrSum
		}
		want(t, stock.CheckTruth(n, truth), wanted, n, truth)
		counts[wanted]++
	}
	if counts[api.OK] < 500 || counts[api.ErrRange] < 500 || counts[api.ErrSum] < 500 {
		t.Error(counts)
	}
}

// P3.2: there is a truth just if one is found, and it is one.
func TestTruthAgainstAllTruths(t *testing.T) {
	var d die
	counts := map[api.Errno]int{}
	for range 4000 {
		n := d.small()
		truth, e := stock.Truth(n)
		counts[e]++
		if len(truths(n)) == 0 {
			want(t, e, api.ErrClash, n)
			want(t, len(truth), 0, n)
			continue
		}
		want(t, e, api.OK, n)
		want(t, len(truth), len(n.Flows), n)
		want(t, isTruth(n, truth), true, n, truth)
	}
	if counts[api.OK] < 500 || counts[api.ErrClash] < 500 {
		t.Error(counts)
	}
}

// P3.2: a truth is found even if just one way out of many leads to it.
func TestTruthByTheOnlyWay(t *testing.T) {
	// From 0 through all tanks and back; the flows between far tanks must stay empty.
	n := api.StockNet{Tanks: 12}
	for i := range 13 {
		n.Flows = append(n.Flows, api.StockFlow{From: i, To: (i + 1) % 13, Litres: rg(0, 100000)})
		n.Flows = append(n.Flows, api.StockFlow{From: i, To: (i + 5) % 13, Litres: rg(0, 0)})
	}
	n.Flows[14].Litres.Lo = 99999
	truth, e := stock.Truth(n)
	want(t, e, api.OK)
	want(t, isTruth(n, truth), true, truth)
	for i := range 13 {
		want(t, span(n, 2*i), spanOf{rg(99999, 100000), api.OK}, i)
	}
	n.Flows[4].Litres.Hi = 99998
	_, e = stock.Truth(n)
	want(t, e, api.ErrClash)
}
