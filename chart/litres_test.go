package chart_test

import (
	"math/big"
	"slices"
	"testing"

	"forecourt/api"
	"forecourt/chart"
)

// P1.4
func TestTight(t *testing.T) {
	for i, x := range []struct {
		t    api.ChartTank
		want []api.Range
		e    api.Errno
	}{
		{chapterTank(0), []api.Range{rg(0, 0), rg(380, 420), rg(400, 900), rg(1900, 2100)}, api.OK},
		{chapterTank(50), []api.Range{rg(0, 0), rg(380, 420), rg(400, 900), rg(1900, 2100)}, api.OK},
		{dented(0), nil, api.ErrClash},
		{tank(0, 0, 5, 90, 1, 0, 50, 2, 20, 100, 3, 10, 70), []api.Range{rg(5, 50), rg(5, 50), rg(20, 70), rg(20, 70)}, api.OK},
		{tank(0, 0, 9, 90, 1, 0, 80, 2, 0, 9), []api.Range{rg(9, 9), rg(9, 9), rg(9, 9)}, api.OK},
		{tank(0, 0, 9, 90, 1, 0, 80, 2, 0, 8), nil, api.ErrClash},
		{tank(0, 0, 0, 100000, 4000, 0, 100000), []api.Range{rg(0, 100000), rg(0, 100000)}, api.OK},
	} {
		if l, e := chart.Tight(x.t); !slices.Equal(l, x.want) || e != x.e {
			t.Errorf("%d: %v %d", i, l, e)
		}
	}
	long := longTank(16)
	long.Rows[0].Litres.Lo, long.Rows[15].Litres.Hi = 40, 60
	if l, e := chart.Tight(long); e != api.OK || !slices.Equal(l, slices.Repeat([]api.Range{rg(40, 60)}, 16)) {
		t.Error(l, e)
	}
}

// P1.4 and P1.6, against all charts.
func TestTightAndMeteredOfAllCharts(t *testing.T) {
	var d die
	for range 300 {
		x := d.small()
		all := charts(x)
		l, e := chart.Tight(x)
		if len(all) == 0 {
			if len(l) != 0 || e != api.ErrClash {
				t.Fatal(x, l, e)
			}
			continue
		}
		if e != api.OK || len(l) != len(x.Rows) {
			t.Fatal(x, l, e)
		}
		for two := range x.Rows {
			if l[two] != rangeOf(all, func(c []int64) int64 { return c[two] }) {
				t.Fatal(x, l, two)
			}
			for one := range two + 1 {
				want := rangeOf(all, func(c []int64) int64 { return c[two] - c[one] })
				if r, e := chart.Metered(x, one, two); r != want || e != api.OK {
					t.Fatal(x, one, two, r, want, e)
				}
			}
		}
	}
}

// rangeOf returns the least and the greatest value of a function of charts.
func rangeOf(all [][]int64, f func([]int64) int64) api.Range {
	r := rg(most, least)
	for _, c := range all {
		r.Lo, r.Hi = min(r.Lo, f(c)), max(r.Hi, f(c))
	}
	return r
}

// P1.5
func TestBelow(t *testing.T) {
	good := []int64{0, 400, 800, 2000}
	seven := tank(0, 2, 0, 9, 9, 0, 9)
	for i, x := range []struct {
		t    api.ChartTank
		l    []int64
		dip  int64
		want api.Ratio
		e    api.Errno
	}{
		{chapterTank(0), good, 150, whole(600), api.OK},
		{chapterTank(0), good, 250, whole(1100), api.OK},
		{chapterTank(0), good, 0, whole(0), api.OK},
		{chapterTank(0), good, 100, whole(400), api.OK},
		{chapterTank(0), good, 200, whole(800), api.OK},
		{chapterTank(0), good, 201, whole(806), api.OK},
		{chapterTank(0), good, 400, whole(2000), api.OK},
		{chapterTank(50), good, 400, whole(2000), api.OK},
		{chapterTank(0), good, 401, api.Ratio{}, api.ErrRange},
		{chapterTank(0), good, -1, api.Ratio{}, api.ErrRange},
		{chapterTank(50), good, 401, api.Ratio{}, api.ErrRange},
		{chapterTank(0), good, least, api.Ratio{}, api.ErrRange},
		{chapterTank(0), good, most, api.Ratio{}, api.ErrRange},
		{chapterTank(0), good[:3], 150, api.Ratio{}, api.ErrEqual},
		{chapterTank(0), nil, 401, api.Ratio{}, api.ErrEqual},
		{chapterTank(0), []int64{0, 421, 800, 2000}, 150, api.Ratio{}, api.ErrClash},
		{chapterTank(0), []int64{0, 421, 800, 2000}, 401, api.Ratio{}, api.ErrClash},
		{dented(0), []int64{0, 950, 900, 2000}, 401, api.Ratio{}, api.ErrClash},
		{seven, []int64{1, 4}, 1, api.Ratio{}, api.ErrRange},
		{seven, []int64{1, 4}, 2, whole(1), api.OK},
		{seven, []int64{1, 4}, 3, over(10, 7), api.OK},
		{seven, []int64{1, 4}, 4, over(13, 7), api.OK},
		{seven, []int64{0, 2}, 9, whole(2), api.OK},
		{seven, []int64{0, 0}, 5, whole(0), api.OK},
		{tank(0, 0, 0, 9, 6, 0, 9), []int64{0, 3}, 3, over(3, 2), api.OK},
		{tank(0, 0, 0, 9, 6, 0, 9), []int64{0, 4}, 1, over(2, 3), api.OK},
		{tank(0, 0, 0, 0, 3999, 99991, 99991, 4000, 100000, 100000), []int64{0, 99991, 100000}, 3998, over(399764018, 3999), api.OK},
	} {
		if r, e := chart.Below(x.t, x.l, x.dip); r != x.want || e != x.e {
			t.Errorf("%d: %v %d", i, r, e)
		}
	}
}

// P1.5, against the definition.
func TestBelowOfAllCharts(t *testing.T) {
	var d die
	for range 100 {
		x := d.charted()
		first, last := ends(x)
		for _, c := range charts(x) {
			for dip := first; dip <= last; dip++ {
				if r, e := chart.Below(x, c, dip); r != leastTerms(litresBelow(x, c, dip)) || e != api.OK {
					t.Fatal(x, c, dip, r, e)
				}
			}
		}
	}
}

// P1.6
func TestMetered(t *testing.T) {
	wide := tank(0, 0, 0, 50, 1, 20, 100, 2, 10, 70)
	for i, x := range []struct {
		t        api.ChartTank
		from, to int
		want     api.Range
		e        api.Errno
	}{
		{chapterTank(0), 1, 2, rg(0, 520), api.OK},
		{chapterTank(0), 1, 3, rg(1480, 1720), api.OK},
		{chapterTank(0), 0, 3, rg(1900, 2100), api.OK},
		{chapterTank(0), 0, 0, rg(0, 0), api.OK},
		{chapterTank(0), 2, 2, rg(0, 0), api.OK},
		{chapterTank(0), 3, 3, rg(0, 0), api.OK},
		{longTank(16), 0, 15, rg(0, 100000), api.OK},
		{longTank(16), 15, 15, rg(0, 0), api.OK},
		{longTank(16), 15, 16, rg(0, 0), api.ErrRange},
		{wide, 0, 1, rg(0, 70), api.OK},
		{wide, 1, 2, rg(0, 50), api.OK},
		{chapterTank(0), 2, 1, rg(0, 0), api.ErrArg},
		{chapterTank(0), 4, 4, rg(0, 0), api.ErrRange},
		{chapterTank(0), 0, 4, rg(0, 0), api.ErrRange},
		{chapterTank(0), -1, 2, rg(0, 0), api.ErrRange},
		{chapterTank(0), 4, 0, rg(0, 0), api.ErrRange},
		{chapterTank(0), 0, -1, rg(0, 0), api.ErrRange},
		{chapterTank(0), most, least, rg(0, 0), api.ErrRange},
		{dented(0), 0, 0, rg(0, 0), api.ErrClash},
		{dented(0), 0, 3, rg(0, 0), api.ErrClash},
		{dented(0), 3, 0, rg(0, 0), api.ErrArg},
		{dented(0), 3, 4, rg(0, 0), api.ErrRange},
	} {
		if r, e := chart.Metered(x.t, x.from, x.to); r != x.want || e != x.e {
			t.Errorf("%d: %v %d", i, r, e)
		}
	}
}

// P1.7
func TestNet(t *testing.T) {
	none := api.ChartSpan{}
	two := tank(2, 0, 0, 0, 10, 10, 10)
	for i, x := range []struct {
		t            api.ChartTank
		water, level int64
		want         api.ChartSpan
		e            api.Errno
	}{
		{chapterTank(0), 0, 150, wholes(390, 660), api.OK},
		{chapterTank(0), 50, 300, wholes(950, 1310), api.OK},
		{chapterTank(0), 0, 0, wholes(0, 0), api.OK},
		{chapterTank(0), 400, 400, wholes(0, 0), api.OK},
		{chapterTank(0), 0, 400, wholes(1900, 2100), api.OK},
		{chapterTank(0), 100, 200, wholes(0, 520), api.OK},
		{chapterTank(0), 120, 170, wholes(0, 260), api.OK},
		{chapterTank(10), 100, 100, wholes(0, 90), api.OK},
		{chapterTank(10), 0, 0, wholes(0, 42), api.OK},
		{chapterTank(10), 400, 400, wholes(0, 85), api.OK},
		{chapterTank(10), 120, 100, wholes(0, 0), api.OK},
		{chapterTank(10), 121, 100, none, api.ErrOrder},
		{chapterTank(10), 150, 100, none, api.ErrOrder},
		{chapterTank(0), 101, 100, none, api.ErrOrder},
		{chapterTank(0), 100, 401, none, api.ErrRange},
		{chapterTank(0), 401, 100, none, api.ErrRange},
		{chapterTank(0), -1, 400, none, api.ErrRange},
		{chapterTank(0), 400, -1, none, api.ErrRange},
		{chapterTank(50), 0, 401, none, api.ErrRange},
		{chapterTank(50), -1, 0, none, api.ErrRange},
		{chapterTank(50), least, most, none, api.ErrRange},
		{chapterTank(50), most, least, none, api.ErrRange},
		{dented(0), 0, 150, none, api.ErrClash},
		{dented(0), 300, 100, none, api.ErrClash},
		{dented(0), 300, 401, none, api.ErrRange},
		{two, 0, 10, wholes(6, 10), api.OK},
		{two, 3, 7, wholes(0, 8), api.OK},
		{two, 3, 8, wholes(1, 9), api.OK},
		{two, 7, 3, wholes(0, 0), api.OK},
		{two, 8, 3, none, api.ErrOrder},
		{tank(0, 0, 0, 1, 3, 2, 2, 7, 2, 3), 1, 5, span(over(2, 3), over(11, 6)), api.OK},
		{tank(50, 0, 0, 0, 10, 5, 5), 10, 0, wholes(0, 5), api.OK},
	} {
		if r := netOf(x.t, x.water, x.level); r.span != x.want || r.e != x.e {
			t.Errorf("%d: %v", i, r)
		}
		for _, high := range []bool{false, true} {
			checkEnd(t, x.t, x.water, x.level, high, x.want, x.e)
		}
	}
}

// checkEnd checks that End returns a chart and true dips that reach an end of a span, or an error.
func checkEnd(t *testing.T, x api.ChartTank, water, level int64, high bool, want api.ChartSpan, wantErr api.Errno) {
	t.Helper()
	c, dips, e := chart.End(x, water, level, high)
	if e != wantErr {
		t.Fatal(x, water, level, high, e)
	}
	if e != api.OK {
		if len(c) != 0 || dips != [2]int64{} {
			t.Fatal(x, water, level, high, c, dips)
		}
		return
	}
	net := want.Lo
	if high {
		net = want.Hi
	}
	if e := chart.CheckChart(x, c); e != api.OK {
		t.Fatal(x, water, level, high, c, e)
	}
	if dips[0] > dips[1] || !isTrue(x, water, dips[0]) || !isTrue(x, level, dips[1]) || exactly(x, c, dips).Cmp(big.NewRat(net.Num, net.Den)) != 0 {
		t.Fatal(x, water, level, high, c, dips)
	}
}

// exactly returns what is between two dips by a chart, in numbers of any size.
func exactly(x api.ChartTank, c []int64, dips [2]int64) *big.Rat {
	u, v := litresBelow(x, c, dips[0]), litresBelow(x, c, dips[1])
	return new(big.Rat).Sub(big.NewRat(v.Num, v.Den), big.NewRat(u.Num, u.Den))
}

// P1.7 and P1.11: over all charts and all true dips nothing is outside the span, and both ends are reached.
func TestNetOfAllCharts(t *testing.T) {
	var d die
	for range 250 {
		x := d.charted()
		spans := spansOfDips(x)
		first, last := ends(x)
		for w := first; w <= last; w++ {
			for l := first; l <= last; l++ {
				want := spanOfReading(x, spans, w, l)
				if r := netOf(x, w, l); r != want {
					t.Fatal(x, w, l, r, want)
				}
				checkEnd(t, x, w, l, false, want.span, want.e)
				checkEnd(t, x, w, l, true, want.span, want.e)
			}
		}
	}
}

// spanOfReading returns what Net has to return, from what is between each two dips.
func spanOfReading(x api.ChartTank, spans map[[2]int64]api.ChartSpan, water, level int64) netted {
	r := netted{e: api.ErrOrder}
	for dips, s := range spans {
		if !isTrue(x, water, dips[0]) || !isTrue(x, level, dips[1]) {
			continue
		}
		if r.e != api.OK {
			r = netted{span: s}
		}
		r.span = joined(r.span, s)
	}
	return r
}

// P1.7, with rows between and the numbers as great as can be; the one chart is compared in numbers of any size.
func TestNetAtTheLimits(t *testing.T) {
	for i, x := range []api.ChartTank{
		tank(0, 0, 0, 0, 1999, 33333, 33333, 4000, 100000, 100000),
		tank(0, 0, 7, 7, 1, 7, 7, 1999, 50021, 50021, 2001, 50023, 50023, 4000, 99991, 99991),
		tank(0, 0, 0, 0, 4000, 99991, 99991),
	} {
		var c []int64
		for _, row := range x.Rows {
			c = append(c, row.Litres.Lo)
		}
		for _, dips := range [][2]int64{{0, 4000}, {1, 3999}, {1998, 2002}, {1000, 3001}, {1, 1998}, {3, 3}, {2500, 3999}} {
			want := exactly(x, c, dips)
			r := netOf(x, dips[0], dips[1])
			ratio := over(want.Num().Int64(), want.Denom().Int64())
			if r.e != api.OK || r.span != span(ratio, ratio) {
				t.Error(i, dips, r, want)
			}
		}
	}
	wide := longTank(16)
	for i := range wide.Rows {
		wide.Rows[i].Dip = int64(i) * 266
	}
	for w := int64(0); w <= 3990; w += 133 {
		for l := w + 1; l <= 3990; l += 399 {
			want := span(whole(0), whole(100000))
			if w/266 == l/266 {
				want.Hi = leastTerms(over(100000*(l-w), 266))
			} else if w/266+1 == l/266 {
				want.Hi = leastTerms(over(100000*max(266-w%266, l%266), 266))
			}
			if r := netOf(wide, w, l); r != (netted{span: want}) {
				t.Error(w, l, r, want)
			}
			checkEnd(t, wide, w, l, false, want, api.OK)
			checkEnd(t, wide, w, l, true, want, api.OK)
		}
	}
}

// weights returns by how much each row counts between two dips, and the denominator of all these numbers.
func weights(x api.ChartTank, dips [2]int64) ([]int64, int64) {
	l, den := make([]int64, len(x.Rows)), int64(1)
	for j, dip := range dips {
		for i := range x.Rows[1:] {
			a, b := x.Rows[i].Dip, x.Rows[i+1].Dip
			if dip < a || dip > b {
				continue
			}
			for k := range l {
				l[k] *= b - a
			}
			sign := den * int64(2*j-1)
			l[i] += sign * (b - dip)
			l[i+1] += sign * (dip - a)
			den *= b - a
			break
		}
	}
	return l, den
}

// leastOf returns the least sum of litres by weights, over all charts, by going from row to row over all litres up to 200.
func leastOf(x api.ChartTank, weights []int64) int64 {
	var best [201]int64
	for i, row := range x.Rows {
		sofar := int64(1) << 60
		for n := range best {
			sofar = min(sofar, best[n])
			best[n] = 1 << 60
			if row.Litres.Lo <= int64(n) && int64(n) <= row.Litres.Hi && sofar < 1<<59 {
				best[n] = sofar + weights[i]*int64(n)
			}
		}
	}
	return slices.Min(best[:])
}

// P1.7 and P1.11, for tanks with many rows.
func TestNetOfLongTanks(t *testing.T) {
	var d die
	for range 400 {
		x := longTank(int(d.roll(5, 16)))
		for i := range x.Rows {
			lo := d.roll(0, 40) + int64(i)*5
			x.Rows[i] = api.ChartRow{Dip: int64(i)*9 + d.roll(0, 8), Litres: rg(lo, lo+d.roll(40, 80))}
		}
		first, last := ends(x)
		for range 20 {
			w := d.roll(first, last)
			l := d.roll(w, last)
			g, den := weights(x, [2]int64{w, l})
			lo := leastOf(x, g)
			for i := range g {
				g[i] = -g[i]
			}
			want := span(leastTerms(over(lo, den)), leastTerms(over(-leastOf(x, g), den)))
			if r := netOf(x, w, l); r != (netted{span: want}) {
				t.Fatal(x, w, l, r, want)
			}
			checkEnd(t, x, w, l, false, want, api.OK)
			checkEnd(t, x, w, l, true, want, api.OK)
		}
	}
}
