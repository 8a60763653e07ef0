package chart_test

import (
	"forecourt/api"
	"forecourt/chart"
)

const (
	least = -1 << 63
	most  = 1<<63 - 1
)

func rg(lo, hi int64) api.Range           { return api.Range{Lo: lo, Hi: hi} }
func whole(n int64) api.Ratio             { return api.Ratio{Num: n, Den: 1} }
func over(num, den int64) api.Ratio       { return api.Ratio{Num: num, Den: den} }
func span(lo, hi api.Ratio) api.ChartSpan { return api.ChartSpan{Lo: lo, Hi: hi} }
func wholes(lo, hi int64) api.ChartSpan   { return span(whole(lo), whole(hi)) }

// above reports whether one ratio is greater than another one.
func above(one, two api.Ratio) bool { return one.Num*two.Den > two.Num*one.Den }

// contains reports whether a span contains another one.
func contains(outer, inner api.ChartSpan) bool {
	return !above(outer.Lo, inner.Lo) && !above(inner.Hi, outer.Hi)
}

// ends returns the first and the last dip of a tank.
func ends(t api.ChartTank) (first, last int64) { return t.Rows[0].Dip, t.Rows[len(t.Rows)-1].Dip }

// isTrue reports whether a dip can be the true one of one that was read.
func isTrue(t api.ChartTank, read, dip int64) bool {
	first, last := ends(t)
	return first <= dip && dip <= last && max(read-dip, dip-read) <= t.Probe
}

// clashes reports whether two rows contradict each other.
func clashes(t api.ChartTank, one, two int) bool {
	return t.Rows[one].Litres.Lo > t.Rows[two].Litres.Hi
}

// netted is what Net returns, dipped what Dips returns.
type netted struct {
	span api.ChartSpan
	e    api.Errno
}
type dipped struct {
	dips api.Range
	e    api.Errno
}

func netOf(t api.ChartTank, water, level int64) netted {
	s, e := chart.Net(t, water, level)
	return netted{s, e}
}

func dipsOf(t api.ChartTank, litres int64) dipped {
	r, e := chart.Dips(t, litres)
	return dipped{r, e}
}

// tank returns a tank: dip, least and greatest litres of each row.
func tank(probe int64, l ...int64) api.ChartTank {
	t := api.ChartTank{Probe: probe}
	for i := 0; i < len(l); i += 3 {
		t.Rows = append(t.Rows, api.ChartRow{Dip: l[i], Litres: rg(l[i+1], l[i+2])})
	}
	return t
}

// chapterTank returns T of the chapter, with a Probe.
func chapterTank(probe int64) api.ChartTank {
	return tank(probe, 0, 0, 0, 100, 380, 420, 200, 400, 900, 400, 1900, 2100)
}

// dented returns T with 950 to 1000 litres in the row 1, so that there is no chart.
func dented(probe int64) api.ChartTank {
	return tank(probe, 0, 0, 0, 100, 950, 1000, 200, 400, 900, 400, 1900, 2100)
}

// longTank returns a tank with so many rows.
func longTank(rows int) api.ChartTank {
	t := api.ChartTank{}
	for i := range rows {
		t.Rows = append(t.Rows, api.ChartRow{Dip: int64(i), Litres: rg(0, 100000)})
	}
	return t
}

// twin returns an equal tank in other memory.
func twin(t api.ChartTank) api.ChartTank {
	t.Rows = append([]api.ChartRow(nil), t.Rows...)
	return t
}

// die gives numbers in a fixed order that looks like none.
type die uint64

func (d *die) roll(lo, hi int64) int64 {
	*d = *d*6364136223846793005 + 1442695040888963407
	return lo + int64(uint64(*d>>33)%uint64(hi-lo+1))
}

// small returns a valid tank that is small enough to look at all its charts; it need not have one.
func (d *die) small() api.ChartTank {
	t := api.ChartTank{Probe: d.roll(0, 2)}
	dip, rows := d.roll(0, 2), d.roll(2, 6)
	for range rows {
		lo := d.roll(0, 5)
		t.Rows = append(t.Rows, api.ChartRow{Dip: dip, Litres: rg(lo, lo+d.roll(0, 6-rows/2))})
		dip += d.roll(1, 4)
	}
	return t
}

// charted returns a small tank that has a chart.
func (d *die) charted() api.ChartTank {
	for {
		if t := d.small(); len(charts(t)) > 0 {
			return t
		}
	}
}

// charts returns all charts of a tank, by the definition.
func charts(t api.ChartTank) [][]int64 {
	all := [][]int64{nil}
	for _, row := range t.Rows {
		var longer [][]int64
		for _, c := range all {
			for n := row.Litres.Lo; n <= row.Litres.Hi; n++ {
				if len(c) == 0 || c[len(c)-1] <= n {
					longer = append(longer, append(append([]int64(nil), c...), n))
				}
			}
		}
		all = longer
	}
	return all
}

// litresBelow returns the litres below a dip by a chart, by the definition, but not in least terms.
func litresBelow(t api.ChartTank, c []int64, dip int64) api.Ratio {
	for i := range t.Rows[1:] {
		a, b := t.Rows[i].Dip, t.Rows[i+1].Dip
		if a <= dip && dip <= b {
			return over(c[i]*(b-a)+(c[i+1]-c[i])*(dip-a), b-a)
		}
	}
	return api.Ratio{}
}

// leastTerms returns a ratio in least terms, by looking for divisors one after the other.
func leastTerms(r api.Ratio) api.Ratio {
	for d := r.Den; d > 1; d-- {
		if r.Num%d == 0 && r.Den%d == 0 {
			return over(r.Num/d, r.Den/d)
		}
	}
	return r
}

// between returns what is between two dips by a chart, in least terms.
func between(t api.ChartTank, c []int64, dips [2]int64) api.Ratio {
	u, v := litresBelow(t, c, dips[0]), litresBelow(t, c, dips[1])
	return leastTerms(over(v.Num*u.Den-u.Num*v.Den, u.Den*v.Den))
}

// spansOfDips returns what is between each two dips of a tank over all its charts.
func spansOfDips(t api.ChartTank) map[[2]int64]api.ChartSpan {
	spans := map[[2]int64]api.ChartSpan{}
	all := charts(t)
	first, last := ends(t)
	for w := first; w <= last; w++ {
		for l := w; l <= last; l++ {
			dips := [2]int64{w, l}
			s := span(between(t, all[0], dips), between(t, all[0], dips))
			for _, c := range all {
				s = joined(s, span(between(t, c, dips), between(t, c, dips)))
			}
			spans[dips] = s
		}
	}
	return spans
}

// joined returns the span from the lesser Lo to the greater Hi.
func joined(one, two api.ChartSpan) api.ChartSpan {
	if above(one.Lo, two.Lo) {
		one.Lo = two.Lo
	}
	if above(two.Hi, one.Hi) {
		one.Hi = two.Hi
	}
	return one
}
