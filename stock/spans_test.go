package stock_test

import (
	"testing"

	"forecourt/api"
	"forecourt/stock"
)

// checkEnds checks that Reach and Bound agree with a span of a flow.
func checkEnds(t *testing.T, n api.StockNet, flow int, wanted api.Range) {
	t.Helper()
	want(t, span(n, flow), spanOf{wanted, api.OK}, n, flow)
	for _, high := range []bool{false, true} {
		truth, e := stock.Reach(n, flow, high)
		want(t, e, api.OK, n, flow, high)
		want(t, len(truth), len(n.Flows), n, flow, high)
		want(t, isTruth(n, truth), true, n, flow, high, truth)
		want(t, truth[flow], endOf(wanted, high), n, flow, high, truth)
		set, e := stock.Bound(n, flow, high)
		want(t, e, api.OK, n, flow, high)
		want(t, bounded(n, flow, high, set), boundOf{endOf(wanted, high), api.OK}, n, flow, high, set)
		want(t, bound(n, flow, high, set), boundOf{endOf(wanted, high), api.OK}, n, flow, high, set)
	}
}

// P3.4, P3.5
func TestSpans(t *testing.T) {
	for _, x := range []struct {
		n    api.StockNet
		want []api.Range
	}{
		{chapter(), []api.Range{rg(100, 110), rg(45, 50), rg(50, 60), rg(45, 50)}},
		{net(1, 0, 1, 5, 9, 1, 0, 7, 20), []api.Range{rg(7, 9), rg(7, 9)}},
		{net(1, 0, 1, 0, 9, 0, 1, 3, 4, 1, 0, 6, 8), []api.Range{rg(2, 5), rg(3, 4), rg(6, 8)}},
		// a tank into which nothing can flow, or out of which nothing can
		{net(1, 0, 1, 0, 9), []api.Range{rg(0, 0)}},
		{net(1, 1, 0, 0, 9), []api.Range{rg(0, 0)}},
		// a ring of its own
		{net(3, 1, 2, 0, 10, 2, 3, 2, 20, 3, 1, 0, 7, 0, 1, 0, 5), []api.Range{rg(2, 7), rg(2, 7), rg(2, 7), rg(0, 0)}},
		// flows both ways between two tanks
		{net(2, 1, 2, 0, 9, 2, 1, 4, 6), []api.Range{rg(4, 6), rg(4, 6)}},
		{net(2, 0, 1, 3, 3, 1, 2, 0, 9, 2, 1, 0, 4, 2, 0, 0, 9), []api.Range{rg(3, 3), rg(3, 7), rg(0, 4), rg(3, 3)}},
		{net(1, 0, 1, 100000, 100000, 1, 0, 0, 100000), []api.Range{rg(100000, 100000), rg(100000, 100000)}},
	} {
		for flow, wanted := range x.want {
			checkEnds(t, x.n, flow, wanted)
		}
	}
}

// P3.4, P3.5: the errors, in their order.
func TestErrorsOfSpans(t *testing.T) {
	for i, x := range []struct {
		n    api.StockNet
		flow int
		e    api.Errno
	}{
		{chapter(), -1, api.ErrRange},
		{chapter(), 4, api.ErrRange},
		{chapter(), least, api.ErrRange},
		{chapter(), most, api.ErrRange},
		{net(1), 0, api.ErrRange},
		{lost(), 4, api.ErrRange},
		{lost(), -1, api.ErrRange},
		{lost(), 0, api.ErrClash},
		{lost(), 3, api.ErrClash},
		{net(1, 0, 1, 5, 9), 0, api.ErrClash},
		// a clash elsewhere than at the flow
		{net(3, 0, 1, 5, 9, 1, 0, 5, 9, 2, 3, 1, 2), 0, api.ErrClash},
	} {
		want(t, span(x.n, x.flow), spanOf{e: x.e}, i)
		for _, high := range []bool{false, true} {
			truth, e := stock.Reach(x.n, x.flow, high)
			want(t, e, x.e, i)
			want(t, len(truth), 0, i)
			set, e := stock.Bound(x.n, x.flow, high)
			want(t, e, x.e, i)
			want(t, len(set), 0, i)
		}
	}
}

// P3.4, P3.5: all flows of small nets against all truths.
func TestSpansAgainstAllTruths(t *testing.T) {
	var d die
	for range 2000 {
		n, all := d.truthful()
		for flow := range n.Flows {
			checkEnds(t, n, flow, spanIn(all, flow))
		}
	}
}

// P3.4, P3.5: nets of the greatest size. A truth that has an end, and a set by which nothing is beyond it, prove each other.
func TestSpansOfGreatNets(t *testing.T) {
	var d die
	wide := 0
	for range 150 {
		n, _ := d.around(12, 40, d.roll(0, 2000))
		for flow := range n.Flows {
			r := span(n, flow)
			want(t, r.e, api.OK, n)
			checkEnds(t, n, flow, r.litres)
			if r.litres.Lo < r.litres.Hi {
				wide++
			}
		}
	}
	if wide < 1000 {
		t.Error(wide)
	}
}
