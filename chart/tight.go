package chart

import "forecourt/api"

// rowLitres is litres of all rows of a tank; behind the last row they are 0.
type rowLitres [api.MaxChartRows]int64

// tightTank is a tank with the least and the greatest litres of each row in all charts.
type tightTank struct {
	api.ChartTank
	low, high rowLitres
}

// tighten returns a valid tank with its tight ranges, or ErrClash if it has no chart.
func tighten(t api.ChartTank) (tightTank, api.Errno) {
	if _, _, found := contradiction(t.Rows); found {
		return tightTank{}, api.ErrClash
	}
	k := tightTank{ChartTank: t}
	least, most := int64(0), int64(api.MaxChartLitres)
	for i, row := range inOrder(t.Rows, false) {
		least = max(least, row.Litres.Lo)
		k.low[i] = least
	}
	for i, row := range inOrder(t.Rows, true) {
		most = min(most, row.Litres.Hi)
		k.high[i] = most
	}
	return k, api.OK
}

// below returns the litres below a dip of the rows by a chart.
func below(rows []api.ChartRow, chart rowLitres, dip int64) api.Ratio {
	at := 0
	for i, row := range inOrder(rows[:len(rows)-1], false) {
		if row.Dip <= dip {
			at = i
		}
	}
	gap, deep := rows[at+1].Dip-rows[at].Dip, dip-rows[at].Dip
	return ratio(chart[at]*(gap-deep)+chart[at+1]*deep, gap)
}

// dipsOf returns the least and the greatest dip at which there can be so many litres.
func (k tightTank) dipsOf(litres api.Ratio) (api.Range, api.Errno) {
	var dips api.Range
	found := false
	for dip := k.Rows[0].Dip; dip <= k.Rows[len(k.Rows)-1].Dip; dip++ {
		if !atMost(below(k.Rows, k.low, dip), litres) || !atMost(litres, below(k.Rows, k.high, dip)) {
			continue
		}
		if !found {
			dips.Lo = dip
		}
		dips.Hi, found = dip, true
	}
	if !found {
		return api.Range{}, api.ErrDip
	}
	return dips, api.OK
}

// near returns the least and the greatest dip that can be the true one of a dip that was read.
func (k tightTank) near(dip int64) api.Range {
	return api.Range{
		Lo: max(k.Rows[0].Dip, dip-k.Probe),
		Hi: min(k.Rows[len(k.Rows)-1].Dip, dip+k.Probe),
	}
}

// levelled returns the chart whose rows all have so many litres, as nearly as their ranges allow it.
func (k tightTank) levelled(litres int64) rowLitres {
	var chart rowLitres
	for i := range k.Rows {
		chart[i] = min(max(litres, k.low[i]), k.high[i])
	}
	return chart
}

// flat yields charts of which one has the least litres between any two dips.
//
// What is between two dips is a sum of the litres of rows by weights, and so the
// sum, over all whole numbers s from 0 on, of the weights of the rows that have
// more than s. These are all rows from some first one on; as the first one goes
// up, their weights together first rise, and then fall. They are least if it is
// the first, or the last, that the ranges allow for s; and where the last one is
// best, it stays best for greater s. So a best chart has the greatest litres up
// to some number, and no more above it than it must: its rows are levelled
// there, and the number can be an end of a range.
func (k tightTank) flat(yield func(rowLitres) bool) {
	left := map[int64]bool{}
	for i := range k.Rows {
		left[k.low[i]], left[k.high[i]] = true, true
	}
	for i := range k.Rows {
		for _, litres := range [2]int64{k.low[i], k.high[i]} {
			if !left[litres] {
				continue
			}
			delete(left, litres)
			if !yield(k.levelled(litres)) {
				return
			}
		}
	}
}

// steep yields charts of which one has the most litres between any two dips: up
// to some row the least litres, and the greatest ones from there on. (The
// weights that flat tells of are greatest by the same first row for all s.)
func (k tightTank) steep(yield func(rowLitres) bool) {
	for first := range k.Rows {
		// Without its third index the slice would grow into low itself.
		grown := append(k.low[:first:first], k.high[first:]...)
		var chart rowLitres
		copy(chart[:], grown)
		if !yield(chart) {
			return
		}
	}
}
