package chart

import (
	"iter"

	"forecourt/api"
)

// reading is a tank with the dips that can be the true ones of two that were read.
type reading struct {
	tightTank
	water, level api.Range
}

// end is a chart, and true dips, with the litres that are between them.
type end struct {
	chart rowLitres
	dips  [2]int64
	net   api.Ratio
}

// read returns a reading of two dips, or the error that Net and End have.
func read(t api.ChartTank, water, level int64) (reading, api.Errno) {
	if e := CheckTank(t); e != api.OK {
		return reading{}, e
	}
	if !hasDips(t.Rows, water, level) {
		return reading{}, api.ErrRange
	}
	k, e := tighten(t)
	if e != api.OK {
		return reading{}, e
	}
	r := reading{tightTank: k, water: k.near(water), level: k.near(level)}
	if r.water.Lo > r.level.Hi {
		return reading{}, api.ErrOrder
	}
	return r, api.OK
}

// trueDips returns the true dips that are farthest from each other, or nearest to each other.
func (r reading) trueDips(far bool) [2]int64 {
	if far {
		return [2]int64{r.water.Lo, r.level.Hi}
	}
	if r.water.Hi < r.level.Lo {
		return [2]int64{r.water.Hi, r.level.Lo}
	}
	meet := max(r.water.Lo, r.level.Lo)
	return [2]int64{meet, meet}
}

// net returns what is between two dips by a chart.
func (r reading) net(chart rowLitres, dips [2]int64) api.Ratio {
	return minus(below(r.Rows, chart, dips[1]), below(r.Rows, chart, dips[0]))
}

// search returns the charts that are tried for an end, and what tells whether a number is as near to this end as another one.
func (r reading) search(high bool) (iter.Seq[rowLitres], func(one, two api.Ratio) bool) {
	if high {
		return r.steep, func(one, two api.Ratio) bool { return atMost(two, one) }
	}
	return r.flat, atMost
}

// reach returns a chart and true dips that reach an end of the span.
func (r reading) reach(high bool) end {
	dips := r.trueDips(high)
	best := end{chart: r.low, dips: dips, net: r.net(r.low, dips)}
	before := best.chart
	charts, asNear := r.search(high)
	for chart := range charts {
		if chart == before {
			continue
		}
		before = chart
		net := r.net(chart, dips)
		if net != best.net && asNear(net, best.net) {
			best = end{chart: chart, dips: dips, net: net}
		}
	}
	return best
}
