package stock_test

import (
	"slices"
	"testing"

	"forecourt/api"
	"forecourt/stock"
)

// contains reports whether the ends of one range are not inside those of another one.
func contains(outer, inner api.Range) bool { return outer.Lo <= inner.Lo && inner.Hi <= outer.Hi }

// P3.8: whatever the truth is, each flow is in its span, and between the bounds of all sets.
func TestTruthsAreHeld(t *testing.T) {
	var d die
	for range 100 {
		n, truth := d.around(int(d.roll(1, 6)), int(d.roll(1, 20)), 300)
		want(t, stock.CheckTruth(n, truth), api.OK, n, truth)
		for flow, litres := range truth {
			r := span(n, flow)
			want(t, r.e, api.OK, n, flow)
			want(t, contains(r.litres, rg(litres, litres)), true, n, truth, flow, r)
			for _, set := range sets(n) {
				low, high := bound(n, flow, false, set), bound(n, flow, true, set)
				if low.e == api.OK && high.e == api.OK && low.litres <= litres && litres <= high.litres {
					continue
				}
				want(t, low.e, api.ErrRule, n, truth, flow, set, low, high)
				want(t, high.e, api.ErrRule, n, truth, flow, set, low, high)
			}
		}
	}
}

// P3.8: both ends are reached by a truth, in nets of any size.
func TestEndsAreReached(t *testing.T) {
	var d die
	for range 200 {
		n, _ := d.around(int(d.roll(1, 12)), int(d.roll(1, 40)), 5000)
		flow := int(d.roll(0, int64(len(n.Flows)-1)))
		r := span(n, flow)
		for _, high := range []bool{false, true} {
			truth, e := stock.Reach(n, flow, high)
			want(t, e, api.OK, n)
			want(t, stock.CheckTruth(n, truth), api.OK, n, truth)
			want(t, truth[flow], endOf(r.litres, high), n, flow, high)
		}
	}
}

// P3.9: there is either a truth, or a set that is short, also in nets of the greatest size.
func TestEitherTruthOrShort(t *testing.T) {
	var d die
	counts := map[api.Errno]int{}
	for range 1000 {
		n, _ := d.around(int(d.roll(1, 12)), int(d.roll(10, 40)), 100)
		for range d.roll(0, 2) {
			r := &n.Flows[d.roll(0, int64(len(n.Flows)-1))].Litres
			r.Hi = min(100000, r.Hi+d.roll(0, 300))
			r.Lo = r.Hi
		}
		truth, e := stock.Truth(n)
		set, none := stock.Short(n)
		switch {
		case e == api.OK && none == api.ErrNone:
			want(t, stock.CheckTruth(n, truth), api.OK, n, truth)
			want(t, isTruth(n, truth), true, n, truth)
		case e == api.ErrClash && none == api.OK:
			by := checkShort(n, set)
			want(t, by.e, api.OK, n, set)
			want(t, by.by, shortOf(n, set), n, set)
		default:
			t.Fatal(n, e, none)
		}
		counts[e]++
	}
	if counts[api.OK] < 100 || counts[api.ErrClash] < 100 {
		t.Error(counts)
	}
}

// P3.10: with a narrower range of a flow no span becomes wider.
func TestNarrowerRanges(t *testing.T) {
	var d die
	compared := 0
	for range 500 {
		n, _ := d.around(int(d.roll(1, 6)), int(d.roll(1, 15)), 50)
		narrow := copied(n)
		r := &narrow.Flows[d.roll(0, int64(len(n.Flows)-1))].Litres
		r.Lo = d.roll(r.Lo, r.Hi)
		r.Hi = d.roll(r.Lo, r.Hi)
		if _, e := stock.Truth(narrow); e != api.OK {
			continue
		}
		compared++
		for flow := range n.Flows {
			outer, inner := span(n, flow), span(narrow, flow)
			want(t, outer.e, api.OK, n)
			want(t, inner.e, api.OK, narrow)
			want(t, contains(outer.litres, inner.litres), true, n, narrow, flow)
		}
	}
	if compared < 100 {
		t.Error(compared)
	}
}

// P3.10, P3.12: if a flow is known to have some number of its span, there is still a truth; if it is known to have another one, there is none.
func TestEachNumberOfASpan(t *testing.T) {
	var d die
	for range 300 {
		n, _ := d.around(int(d.roll(1, 8)), int(d.roll(1, 25)), 20)
		flow := int(d.roll(0, int64(len(n.Flows)-1)))
		r := span(n, flow).litres
		for litres := max(0, r.Lo-2); litres <= r.Hi+2; litres++ {
			known := copied(n)
			known.Flows[flow].Litres = rg(litres, litres)
			truth, e := stock.Truth(known)
			if litres < r.Lo || litres > r.Hi {
				// What is not in the span is no truth; if it is in the range, known shows that.
				if contains(n.Flows[flow].Litres, rg(litres, litres)) {
					want(t, e, api.ErrClash, n, flow, litres)
				}
				continue
			}
			want(t, e, api.OK, n, flow, litres)
			want(t, stock.CheckTruth(n, truth), api.OK, n, flow, litres)
			want(t, truth[flow], litres, n, flow)
		}
	}
}

// P3.11: with From and To of all flows exchanged, truths and spans stay.
func TestTurnedFlows(t *testing.T) {
	var d die
	for range 1000 {
		n := d.small()
		turned := copied(n)
		for i, f := range n.Flows {
			turned.Flows[i].From, turned.Flows[i].To = f.To, f.From
		}
		checkSameTruths(t, n, turned)
	}
}

// P3.11: with numbers of tanks exchanged, truths and spans stay.
func TestExchangedTanks(t *testing.T) {
	var d die
	for range 1000 {
		n := d.small()
		one, two := int(d.roll(1, int64(n.Tanks))), int(d.roll(1, int64(n.Tanks)))
		exchanged := func(place int) int {
			switch place {
			case one:
				return two
			case two:
				return one
			}
			return place
		}
		other := copied(n)
		for i, f := range n.Flows {
			other.Flows[i].From, other.Flows[i].To = exchanged(f.From), exchanged(f.To)
		}
		checkSameTruths(t, n, other)
	}
}

// checkSameTruths checks that two small nets have the same truths, and the same spans.
func checkSameTruths(t *testing.T, n, other api.StockNet) {
	t.Helper()
	all := truths(n)
	for _, truth := range all {
		want(t, stock.CheckTruth(other, truth), api.OK, n, other, truth)
	}
	for _, truth := range truths(other) {
		want(t, stock.CheckTruth(n, truth), api.OK, n, other, truth)
	}
	want(t, slices.Equal(spans(n), spans(other)), true, n, other)
}

// P3.12: the truths of two nets without tanks in common, as one net, are those of both.
func TestTwoNetsTogether(t *testing.T) {
	var d die
	counts := map[api.Errno]int{}
	for range 2000 {
		one, two := d.small(), d.small()
		both := api.StockNet{Tanks: one.Tanks + two.Tanks, Flows: slices.Clone(one.Flows)}
		moved := func(place int) int {
			if place > 0 {
				place += one.Tanks
			}
			return place
		}
		for _, f := range two.Flows {
			both.Flows = append(both.Flows, api.StockFlow{From: moved(f.From), To: moved(f.To), Litres: f.Litres})
		}
		_, e := stock.Truth(one)
		_, f := stock.Truth(two)
		truth, g := stock.Truth(both)
		want(t, g, max(e, f), one, two)
		counts[g]++
		if g != api.OK {
			continue
		}
		want(t, stock.CheckTruth(one, truth[:len(one.Flows)]), api.OK, one, two, truth)
		want(t, stock.CheckTruth(two, truth[len(one.Flows):]), api.OK, one, two, truth)
		want(t, slices.Equal(spans(both), slices.Concat(spans(one), spans(two))), true, one, two)
	}
	if counts[api.OK] < 100 || counts[api.ErrClash] < 100 {
		t.Error(counts)
	}
}

// P3.12: half of two truths each is in all ranges, and agrees at all tanks.
func TestHalfOfTwoTruths(t *testing.T) {
	var d die
	halves := 0
	for range 300 {
		n, all := d.truthful()
		for range 10 {
			one, two := all[d.roll(0, int64(len(all)-1))], all[d.roll(0, int64(len(all)-1))]
			half, whole := make([]int64, len(one)), true
			for i := range one {
				half[i] = (one[i] + two[i]) / 2
				whole = whole && (one[i]+two[i])%2 == 0
			}
			if whole {
				want(t, stock.CheckTruth(n, half), api.OK, n, one, two)
				halves++
			}
		}
	}
	if halves < 300 {
		t.Error(halves)
	}
}
