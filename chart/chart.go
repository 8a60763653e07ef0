// Package chart is layer 1: see shared/doc/01-chart.md. It turns dips of tilted
// and dented tanks into litres.
package chart

import "forecourt/api"

// CheckTank reports whether a tank is valid. (P1.1)
func CheckTank(t api.ChartTank) api.Errno {
	switch {
	case len(t.Rows) < 2 || len(t.Rows) > api.MaxChartRows:
		return api.ErrMany
	case !dipsFit(t.Rows):
		return api.ErrRange
	case !litresFit(t.Rows) || !within(0, api.MaxChartProbe, t.Probe):
		return api.ErrArg
	}
	return api.OK
}

// CheckChart reports whether numbers are a chart. (P1.2)
func CheckChart(t api.ChartTank, chart []int64) api.Errno {
	if e := CheckTank(t); e != api.OK {
		return e
	}
	if len(chart) != len(t.Rows) {
		return api.ErrEqual
	}
	before := int64(0)
	for i, row := range inOrder(t.Rows, false) {
		if chart[i] < before || !within(row.Litres.Lo, row.Litres.Hi, chart[i]) {
			return api.ErrClash
		}
		before = chart[i]
	}
	return api.OK
}

// Clash returns two rows that contradict each other. (P1.3)
func Clash(t api.ChartTank) (int, int, api.Errno) {
	if e := CheckTank(t); e != api.OK {
		return 0, 0, e
	}
	one, two, found := contradiction(t.Rows)
	if !found {
		return 0, 0, api.ErrNone
	}
	return one, two, api.OK
}

// Tight returns what each row has in all charts. (P1.4)
func Tight(t api.ChartTank) ([]api.Range, api.Errno) {
	if e := CheckTank(t); e != api.OK {
		return nil, e
	}
	k, e := tighten(t)
	if e != api.OK {
		return nil, e
	}
	ranges := make([]api.Range, len(k.Rows))
	for i := range ranges {
		ranges[i] = api.Range{Lo: k.low[i], Hi: k.high[i]}
	}
	return ranges, api.OK
}

// Below returns the litres below a dip. (P1.5)
func Below(t api.ChartTank, chart []int64, dip int64) (api.Ratio, api.Errno) {
	if e := CheckChart(t, chart); e != api.OK {
		return api.Ratio{}, e
	}
	if !hasDips(t.Rows, dip) {
		return api.Ratio{}, api.ErrRange
	}
	var c rowLitres
	copy(c[:], chart)
	return below(t.Rows, c, dip), api.OK
}

// Metered returns by how much a row is above another one. (P1.6)
func Metered(t api.ChartTank, from, to int) (api.Range, api.Errno) {
	if e := CheckTank(t); e != api.OK {
		return api.Range{}, e
	}
	if !within(0, int64(len(t.Rows)-1), int64(from), int64(to)) {
		return api.Range{}, api.ErrRange
	}
	if from > to {
		return api.Range{}, api.ErrArg
	}
	k, e := tighten(t)
	if e != api.OK {
		return api.Range{}, e
	}
	if from == to {
		return api.Range{}, api.OK
	}
	return api.Range{Lo: max(0, k.low[to]-k.high[from]), Hi: k.high[to] - k.low[from]}, api.OK
}

// Net returns the litres between two dips that were read. (P1.7)
func Net(t api.ChartTank, water, level int64) (api.ChartSpan, api.Errno) {
	r, e := read(t, water, level)
	if e != api.OK {
		return api.ChartSpan{}, e
	}
	return api.ChartSpan{Lo: r.reach(false).net, Hi: r.reach(true).net}, api.OK
}

// End returns a chart and true dips with as many litres as an end. (P1.7)
func End(t api.ChartTank, water, level int64, high bool) ([]int64, [2]int64, api.Errno) {
	r, e := read(t, water, level)
	if e != api.OK {
		return nil, [2]int64{}, e
	}
	found := r.reach(high)
	chart := make([]int64, len(r.Rows))
	copy(chart, found.chart[:])
	return chart, found.dips, api.OK
}

// Dips returns the dips at which so many litres can be. (P1.8)
func Dips(t api.ChartTank, litres int64) (api.Range, api.Errno) {
	if e := CheckTank(t); e != api.OK {
		return api.Range{}, e
	}
	if !within(0, api.MaxChartLitres, litres) {
		return api.Range{}, api.ErrRange
	}
	k, e := tighten(t)
	if e != api.OK {
		return api.Range{}, e
	}
	return k.dipsOf(api.Ratio{Num: litres, Den: 1})
}

// Common returns litres at the common warmth. (P1.9)
func Common(litres int64, warm, swell api.Range) (api.ChartSpan, api.Errno) {
	if !within(0, api.MaxChartLitres, litres) {
		return api.ChartSpan{}, api.ErrRange
	}
	if !validRange(warm, -api.MaxChartWarm, api.MaxChartWarm) || !validRange(swell, 0, api.MaxChartSwell) {
		return api.ChartSpan{}, api.ErrArg
	}
	coldLo, coldHi := warm.Lo*swell.Lo, warm.Lo*swell.Hi
	warmLo, warmHi := warm.Hi*swell.Lo, warm.Hi*swell.Hi
	return api.ChartSpan{
		Lo: unswollen(litres, max(coldLo, coldHi, warmLo, warmHi)),
		Hi: unswollen(litres, min(coldLo, coldHi, warmLo, warmHi)),
	}, api.OK
}
