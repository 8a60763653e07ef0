package chart_test

import (
	"testing"

	"forecourt/api"
	"forecourt/chart"
)

// P1.8
func TestDips(t *testing.T) {
	none := rg(0, 0)
	for i, x := range []struct {
		t      api.ChartTank
		litres int64
		want   api.Range
		e      api.Errno
	}{
		{chapterTank(0), 500, rg(117, 213), api.OK},
		{chapterTank(50), 500, rg(117, 213), api.OK},
		{chapterTank(0), 0, rg(0, 0), api.OK},
		{chapterTank(0), 1, none, api.ErrDip}, // 0 at the dip 0, and at least 19 / 5 at the dip 1
		{chapterTank(0), 400, rg(96, 200), api.OK},
		{chapterTank(0), 1900, rg(367, 400), api.OK},
		{chapterTank(0), 2100, rg(400, 400), api.OK},
		{chapterTank(0), 2101, none, api.ErrDip},
		{chapterTank(0), 2200, none, api.ErrDip},
		{chapterTank(0), 100000, none, api.ErrDip},
		{chapterTank(0), 100001, none, api.ErrRange},
		{chapterTank(0), -1, none, api.ErrRange},
		{chapterTank(0), most, none, api.ErrRange},
		{chapterTank(0), least, none, api.ErrRange},
		{dented(0), 500, none, api.ErrClash},
		{dented(0), 2200, none, api.ErrClash},
		{dented(0), 100001, none, api.ErrRange},
		{tank(0, 5, 7, 7, 9, 7, 7), 7, rg(5, 9), api.OK},
		{tank(0, 5, 7, 7, 9, 7, 7), 6, none, api.ErrDip},
		{tank(0, 5, 7, 7, 9, 7, 7), 8, none, api.ErrDip},
		{tank(0, 0, 0, 0, 2, 100, 100), 33, none, api.ErrDip},
		{tank(0, 0, 0, 0, 2, 100, 100), 50, rg(1, 1), api.OK},
		{tank(0, 0, 0, 0, 3, 100, 100), 33, none, api.ErrDip},
		{tank(0, 0, 5, 90, 1, 0, 50, 2, 20, 100, 3, 10, 70), 5, rg(0, 1), api.OK},
		{tank(0, 0, 5, 90, 1, 0, 50, 2, 20, 100, 3, 10, 70), 51, rg(2, 3), api.OK},
		{tank(0, 0, 5, 90, 1, 0, 50, 2, 20, 100, 3, 10, 70), 71, none, api.ErrDip},
		{tank(0, 0, 0, 0, 4000, 100000, 100000), 100000, rg(4000, 4000), api.OK},
		{tank(0, 3999, 0, 100000, 4000, 0, 100000), 100000, rg(3999, 4000), api.OK},
		{tank(0, 0, 0, 0, 3, 5, 5), 5, rg(3, 3), api.OK},
	} {
		if r := dipsOf(x.t, x.litres); r.dips != x.want || r.e != x.e {
			t.Errorf("%d: %v", i, r)
		}
	}
}

// P1.8, against all charts.
func TestDipsOfAllCharts(t *testing.T) {
	var d die
	for range 250 {
		x := d.charted()
		spans := map[int64]api.ChartSpan{}
		first, last := ends(x)
		for dip := first; dip <= last; dip++ {
			for i, c := range charts(x) {
				s := span(litresBelow(x, c, dip), litresBelow(x, c, dip))
				if i > 0 {
					s = joined(spans[dip], s)
				}
				spans[dip] = s
			}
		}
		for litres := range int64(12) {
			want := dipped{e: api.ErrDip}
			for dip := last; dip >= first; dip-- {
				if above(spans[dip].Lo, whole(litres)) || above(whole(litres), spans[dip].Hi) {
					continue
				}
				if want.e != api.OK {
					want = dipped{dips: rg(dip, dip)}
				}
				want.dips.Lo = dip
			}
			if r := dipsOf(x, litres); r != want {
				t.Fatal(x, litres, r, want)
			}
		}
	}
}

// P1.9
func TestCommon(t *testing.T) {
	none := api.ChartSpan{}
	all, swells := rg(-400, 400), rg(0, 200)
	for i, x := range []struct {
		litres      int64
		warm, swell api.Range
		want        api.ChartSpan
		e           api.Errno
	}{
		{1000, rg(10, 10), rg(100, 100), span(over(1000000, 1001), over(1000000, 1001)), api.OK},
		{1000, rg(10, 10), rg(0, 100), span(over(1000000, 1001), whole(1000)), api.OK},
		{99, all, rg(0, 0), wholes(99, 99), api.OK},
		{99, rg(0, 0), swells, wholes(99, 99), api.OK},
		{0, all, swells, wholes(0, 0), api.OK},
		{1080, rg(-100, 400), rg(100, 200), span(whole(1000), over(54000, 49)), api.OK},
		{990, rg(-200, -100), rg(50, 100), span(over(198000, 199), over(49500, 49)), api.OK},
		{920, rg(-400, 0), rg(100, 200), wholes(920, 1000), api.OK},
		{100000, all, swells, span(over(2500000, 27), over(2500000, 23)), api.OK},
		{1, rg(1, 1), rg(1, 1), span(over(1000000, 1000001), over(1000000, 1000001)), api.OK},
		{1, rg(-1, -1), rg(1, 1), span(over(1000000, 999999), over(1000000, 999999)), api.OK},
		{100001, rg(0, 0), rg(0, 0), none, api.ErrRange},
		{-1, rg(0, 0), rg(0, 0), none, api.ErrRange},
		{most, rg(0, 0), rg(0, 0), none, api.ErrRange},
		{least, rg(0, 0), rg(0, 0), none, api.ErrRange},
		{-1, rg(1, 0), rg(1, 0), none, api.ErrRange},
		{1, rg(1, 0), rg(0, 0), none, api.ErrArg},
		{1, rg(-401, 0), rg(0, 0), none, api.ErrArg},
		{1, rg(0, 401), rg(0, 0), none, api.ErrArg},
		{1, rg(401, 401), rg(0, 0), none, api.ErrArg},
		{1, rg(-401, -401), rg(0, 0), none, api.ErrArg},
		{1, rg(least, most), rg(0, 0), none, api.ErrArg},
		{1, rg(most, least), rg(0, 0), none, api.ErrArg},
		{1, rg(0, 0), rg(1, 0), none, api.ErrArg},
		{1, rg(0, 0), rg(-1, 0), none, api.ErrArg},
		{1, rg(0, 0), rg(0, 201), none, api.ErrArg},
		{1, rg(0, 0), rg(201, 201), none, api.ErrArg},
		{1, rg(0, 0), rg(least, most), none, api.ErrArg},
	} {
		if s, e := chart.Common(x.litres, x.warm, x.swell); s != x.want || e != x.e {
			t.Errorf("%d: %v %d", i, s, e)
		}
	}
}

// P1.9, against all numbers in both ranges.
func TestCommonOfAllNumbers(t *testing.T) {
	var d die
	for range 200 {
		litres, warm, swell := d.roll(0, 9), rg(d.roll(-9, 9), 0), rg(d.roll(0, 9), 0)
		warm.Hi, swell.Hi = warm.Lo+d.roll(0, 9), swell.Lo+d.roll(0, 9)
		first := over(1000000*litres, 1000000+warm.Lo*swell.Lo)
		want := span(first, first)
		for w := warm.Lo; w <= warm.Hi; w++ {
			for s := swell.Lo; s <= swell.Hi; s++ {
				r := over(1000000*litres, 1000000+w*s)
				want = joined(want, span(r, r))
			}
		}
		want = span(leastTerms(want.Lo), leastTerms(want.Hi))
		if s, e := chart.Common(litres, warm, swell); s != want || e != api.OK {
			t.Fatal(litres, warm, swell, s, want, e)
		}
	}
}
