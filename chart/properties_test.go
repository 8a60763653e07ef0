package chart_test

import (
	"testing"

	"forecourt/api"
	"forecourt/chart"
)

// tight returns the tight ranges of a tank that has a chart.
func tight(t *testing.T, x api.ChartTank) []api.Range {
	t.Helper()
	l, e := chart.Tight(x)
	if e != api.OK || len(l) != len(x.Rows) {
		t.Fatal(x, l, e)
	}
	return l
}

// P1.10
func TestTightRangesAreTight(t *testing.T) {
	var d die
	for range 300 {
		x := d.charted()
		l := tight(t, x)
		var low, high []int64
		for _, r := range l {
			low, high = append(low, r.Lo), append(high, r.Hi)
		}
		if e := chart.CheckChart(x, low); e != api.OK {
			t.Fatal(x, low, e)
		}
		if e := chart.CheckChart(x, high); e != api.OK {
			t.Fatal(x, high, e)
		}
		for _, c := range charts(x) {
			for i, n := range c {
				if n < l[i].Lo || n > l[i].Hi {
					t.Fatal(x, c, l)
				}
			}
		}
	}
}

// P1.10: each tank of 16 rows has either a chart, which the least numbers are, or a pair of rows.
func TestChartOrPair(t *testing.T) {
	var d die
	seen := map[api.Errno]int{}
	for range 500 {
		x := longTank(16)
		for i := range x.Rows {
			lo := d.roll(0, 60) + int64(i)*5
			x.Rows[i].Litres = rg(lo, lo+d.roll(0, 70))
		}
		one, two, clash := chart.Clash(x)
		l, e := chart.Tight(x)
		switch {
		case clash == api.OK && e == api.ErrClash:
			if one >= two || !clashes(x, one, two) {
				t.Fatal(x, one, two)
			}
		case clash == api.ErrNone && e == api.OK:
			var low []int64
			for _, r := range l {
				low = append(low, r.Lo)
			}
			if e := chart.CheckChart(x, low); e != api.OK {
				t.Fatal(x, low, e)
			}
		default:
			t.Fatal(x, clash, e)
		}
		seen[e]++
	}
	if seen[api.OK] == 0 || seen[api.ErrClash] == 0 {
		t.Fatal(seen)
	}
}

// P1.11
func TestNetHolds(t *testing.T) {
	var d die
	for range 150 {
		x := d.charted()
		first, last := ends(x)
		for range 20 {
			w, l := d.roll(first, last), d.roll(first, last)
			r := netOf(x, w, l)
			if r.e != api.OK {
				continue
			}
			if r.span.Lo.Num < 0 || r.span.Lo.Den < 1 || r.span.Hi.Den < 1 || above(r.span.Lo, r.span.Hi) {
				t.Fatal(x, w, l, r)
			}
			checkEnd(t, x, w, l, false, r.span, api.OK)
			checkEnd(t, x, w, l, true, r.span, api.OK)
			for _, c := range charts(x) {
				for v := w - x.Probe; v <= w+x.Probe; v++ {
					for u := max(v, l-x.Probe); u <= l+x.Probe; u++ {
						if !isTrue(x, w, v) || !isTrue(x, l, u) {
							continue
						}
						net := between(x, c, [2]int64{v, u})
						if !contains(r.span, span(net, net)) {
							t.Fatal(x, w, l, c, v, u, net, r)
						}
					}
				}
			}
		}
	}
}

// notWider checks that no span of a narrower tank with the same dips is wider.
func notWider(t *testing.T, narrow, wide api.ChartTank) {
	t.Helper()
	inner, outer := tight(t, narrow), tight(t, wide)
	for i := range outer {
		if inner[i].Lo < outer[i].Lo || inner[i].Hi > outer[i].Hi {
			t.Fatal(narrow, wide, inner, outer)
		}
		one, e := chart.Metered(narrow, 0, i)
		two, f := chart.Metered(wide, 0, i)
		if e != api.OK || f != api.OK || one.Lo < two.Lo || one.Hi > two.Hi {
			t.Fatal(narrow, wide, i, one, two)
		}
	}
	first, last := ends(wide)
	for w := first; w <= last; w++ {
		for l := first; l <= last; l++ {
			one, two := netOf(narrow, w, l), netOf(wide, w, l)
			if one.e == api.OK && (two.e != api.OK || !contains(two.span, one.span)) {
				t.Fatal(narrow, wide, w, l, one, two)
			}
		}
	}
	for litres := range int64(12) {
		one, two := dipsOf(narrow, litres), dipsOf(wide, litres)
		if one.e == api.OK && (two.e != api.OK || one.dips.Lo < two.dips.Lo || one.dips.Hi > two.dips.Hi) {
			t.Fatal(narrow, wide, litres, one, two)
		}
	}
}

// P1.12
func TestNarrower(t *testing.T) {
	var d die
	for range 300 {
		wide := d.charted()
		if wide.Probe > 0 {
			surer := twin(wide)
			surer.Probe--
			notWider(t, surer, wide)
		}
		narrow := twin(wide)
		r := &narrow.Rows[d.roll(0, int64(len(narrow.Rows)-1))].Litres
		r.Lo = d.roll(r.Lo, r.Hi)
		r.Hi = d.roll(r.Lo, r.Hi)
		if len(charts(narrow)) > 0 {
			notWider(t, narrow, wide)
		}
	}
}

// P1.12: with a row more that says nothing, tight ranges of the others stay.
func TestRowMore(t *testing.T) {
	var d die
	for range 300 {
		x := d.charted()
		before := tight(t, x)
		for i := range before[1:] {
			if x.Rows[i+1].Dip-x.Rows[i].Dip < 2 {
				continue
			}
			dip := d.roll(x.Rows[i].Dip+1, x.Rows[i+1].Dip-1)
			more := api.ChartTank{Probe: x.Probe}
			more.Rows = append(more.Rows, x.Rows[:i+1]...)
			more.Rows = append(more.Rows, api.ChartRow{Dip: dip, Litres: rg(0, api.MaxChartLitres)})
			more.Rows = append(more.Rows, x.Rows[i+1:]...)
			for j, r := range tight(t, more) {
				switch {
				case j <= i && r != before[j], j > i+1 && r != before[j-1]:
					t.Fatal(x, more, j, r)
				case j == i+1 && r != rg(before[i].Lo, before[i+1].Hi):
					t.Fatal(x, more, j, r)
				}
			}
		}
	}
}

// moved returns a tank with all Dips, and all Litres, as many greater.
func moved(x api.ChartTank, dips, litres int64) api.ChartTank {
	x = twin(x)
	for i := range x.Rows {
		x.Rows[i].Dip += dips
		x.Rows[i].Litres.Lo += litres
		x.Rows[i].Litres.Hi += litres
	}
	return x
}

// P1.13
func TestMoved(t *testing.T) {
	var d die
	for range 300 {
		x := d.charted()
		first, last := ends(x)
		dips, litres := d.roll(0, api.MaxChartDip-last), d.roll(0, api.MaxChartLitres-10)
		deeper, fuller := moved(x, dips, 0), moved(x, 0, litres)
		l := tight(t, x)
		deep, full := tight(t, deeper), tight(t, fuller)
		for i := range l {
			if deep[i] != l[i] || full[i] != rg(l[i].Lo+litres, l[i].Hi+litres) {
				t.Fatal(x, dips, litres, l, deep, full)
			}
		}
		for w := first; w <= last; w++ {
			for v := first; v <= last; v++ {
				r := netOf(x, w, v)
				if r != netOf(deeper, w+dips, v+dips) || r != netOf(fuller, w, v) {
					t.Fatal(x, dips, litres, w, v)
				}
			}
		}
		for n := range int64(12) {
			r := dipsOf(x, n)
			one, two := dipsOf(fuller, min(n+litres, api.MaxChartLitres)), dipsOf(deeper, n)
			if r.e == api.OK {
				two.dips.Lo -= dips
				two.dips.Hi -= dips
			}
			if r != two || r != one && n+litres <= api.MaxChartLitres {
				t.Fatal(x, dips, litres, n, r, one, two)
			}
		}
	}
}

// P1.14
func TestDipsAreBetween(t *testing.T) {
	var d die
	for range 200 {
		x := d.charted()
		before := rg(least, least)
		for litres := range int64(12) {
			r := dipsOf(x, litres)
			if r.e != api.OK {
				continue
			}
			if r.dips.Lo < before.Lo || r.dips.Hi < before.Hi || r.dips.Lo > r.dips.Hi {
				t.Fatal(x, litres, r, before)
			}
			before = r.dips
		}
		first, last := ends(x)
		for _, c := range charts(x) {
			for dip := first; dip <= last; dip++ {
				n := leastTerms(litresBelow(x, c, dip))
				if n.Den != 1 {
					continue
				}
				if r := dipsOf(x, n.Num); r.e != api.OK || dip < r.dips.Lo || dip > r.dips.Hi {
					t.Fatal(x, c, dip, n, r)
				}
			}
		}
	}
}

// common returns the span of Common.
func common(t *testing.T, litres int64, warm, swell api.Range) api.ChartSpan {
	t.Helper()
	s, e := chart.Common(litres, warm, swell)
	if e != api.OK || s.Lo.Den < 1 || s.Hi.Den < 1 || above(s.Lo, s.Hi) {
		t.Fatal(litres, warm, swell, s, e)
	}
	return s
}

// P1.15
func TestWarmth(t *testing.T) {
	var d die
	for range 3000 {
		warm, swell := rg(d.roll(-400, 400), 0), rg(d.roll(0, 200), 0)
		warm.Hi, swell.Hi = d.roll(warm.Lo, 400), d.roll(swell.Lo, 200)
		litres := d.roll(0, 99999)
		if s := common(t, litres, warm, rg(0, 0)); s != wholes(litres, litres) {
			t.Fatal(litres, warm, s)
		}
		if s := common(t, litres, rg(0, 0), swell); s != wholes(litres, litres) {
			t.Fatal(litres, swell, s)
		}
		s := common(t, litres, warm, swell)
		wideWarm := rg(d.roll(-400, warm.Lo), d.roll(warm.Hi, 400))
		wideSwell := rg(d.roll(0, swell.Lo), d.roll(swell.Hi, 200))
		for _, wide := range []api.ChartSpan{common(t, litres, wideWarm, swell), common(t, litres, warm, wideSwell), common(t, litres, wideWarm, wideSwell)} {
			if !contains(wide, s) {
				t.Fatal(litres, warm, swell, wideWarm, wideSwell, wide, s)
			}
		}
		more := common(t, d.roll(litres+1, 100000), warm, swell)
		if above(s.Lo, more.Lo) || above(s.Hi, more.Hi) {
			t.Fatal(litres, warm, swell, s, more)
		}
	}
}
