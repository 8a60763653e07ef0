package stock_test

import (
	"slices"
	"testing"

	"forecourt/api"
	"forecourt/stock"
)

func meter(shown int64, off api.Range) spanOf {
	r, e := stock.Meter(shown, off)
	return spanOf{r, e}
}

func worn(cans []api.StockCan) spanOf {
	r, e := stock.Worn(cans)
	return spanOf{r, e}
}

// cans returns cans: what the meter showed, and what each one had.
func cans(l ...int64) []api.StockCan {
	var out []api.StockCan
	for i := 0; i < len(l); i += 2 {
		out = append(out, api.StockCan{Shown: l[i], True: l[i+1]})
	}
	return out
}

// P3.6
func TestMeter(t *testing.T) {
	for i, x := range []struct {
		shown int64
		off   api.Range
		want  spanOf
	}{
		{1000, rg(-5, 5), spanOf{rg(996, 1005), api.OK}},
		{7, rg(0, 0), spanOf{rg(7, 7), api.OK}},
		{9, rg(-100, -99), spanOf{rg(10, 10), api.OK}},
		{0, rg(-100, 100), spanOf{rg(0, 0), api.OK}},
		{0, rg(100, 100), spanOf{rg(0, 0), api.OK}},
		{1, rg(50, 100), spanOf{e: api.ErrNone}},
		{1, rg(-100, -1), spanOf{e: api.ErrNone}},
		{1, rg(-1, 0), spanOf{rg(1, 1), api.OK}},
		{1100, rg(100, 100), spanOf{rg(1000, 1000), api.OK}},
		{1101, rg(100, 100), spanOf{e: api.ErrNone}},
		{100000, rg(-100, 100), spanOf{rg(90910, 111111), api.OK}},
		{-1, rg(0, 0), spanOf{e: api.ErrRange}},
		{-1, rg(5, 0), spanOf{e: api.ErrRange}},
		{100001, rg(0, 0), spanOf{e: api.ErrRange}},
		{least, rg(0, 0), spanOf{e: api.ErrRange}},
		{most, rg(most, least), spanOf{e: api.ErrRange}},
		{5, rg(5, 0), spanOf{e: api.ErrArg}},
		{5, rg(-101, 0), spanOf{e: api.ErrArg}},
		{5, rg(0, 101), spanOf{e: api.ErrArg}},
		{5, rg(101, 101), spanOf{e: api.ErrArg}},
		{5, rg(-101, -101), spanOf{e: api.ErrArg}},
		{5, rg(least, most), spanOf{e: api.ErrArg}},
		{5, rg(most, least), spanOf{e: api.ErrArg}},
	} {
		want(t, meter(x.shown, x.off), x.want, i)
	}
}

// metered returns the true litres that are possible, by trying all that are near: what is shown rises with what the meter is off, so all between both ends is shown by some s.
func metered(shown int64, off api.Range) spanOf {
	found := spanOf{e: api.ErrNone}
	for litres := max(0, shown-shown/5-2); litres <= shown+shown/5+2; litres++ {
		if litres*(1000+off.Lo) > 1000*shown || litres*(1000+off.Hi) < 1000*shown {
			continue
		}
		if found.e == api.ErrNone {
			found = spanOf{rg(litres, litres), api.OK}
		}
		found.litres.Hi = litres
	}
	return found
}

// P3.6: against all numbers of true litres.
func TestMeterAgainstTheDefinition(t *testing.T) {
	var d die
	none := 0
	for i := range int64(20000) {
		shown := d.roll(0, i%2000)
		if i%100 == 0 {
			shown = d.roll(99000, 100000)
		}
		lo := d.roll(-100, 100)
		off := rg(lo, min(100, lo+d.roll(0, i%50)))
		wanted := metered(shown, off)
		want(t, meter(shown, off), wanted, shown, off)
		if wanted.e == api.ErrNone {
			none++
		}
	}
	if none < 1000 {
		t.Error(none)
	}
}

// P3.7
func TestWorn(t *testing.T) {
	for i, x := range []struct {
		cans []api.StockCan
		want spanOf
	}{
		{cans(1003, 1000, 498, 500), spanOf{rg(-4, 3), api.OK}},
		{cans(498, 500, 1003, 1000), spanOf{rg(-4, 3), api.OK}},
		{cans(500, 500), spanOf{rg(0, 0), api.OK}},
		{cans(301, 300), spanOf{rg(3, 4), api.OK}},
		{cans(299, 300), spanOf{rg(-4, -3), api.OK}},
		{cans(100000, 99999), spanOf{rg(0, 1), api.OK}},
		{cans(99999, 100000), spanOf{rg(-1, 0), api.OK}},
		{cans(1100, 1000), spanOf{rg(100, 100), api.OK}},
		{cans(900, 1000), spanOf{rg(-100, -100), api.OK}},
		{cans(110, 100, 90, 100), spanOf{rg(-100, 100), api.OK}},
		{cans(1101, 1000), spanOf{e: api.ErrArg}},
		{cans(899, 1000), spanOf{e: api.ErrArg}},
		{cans(7, 7, 899, 1000), spanOf{e: api.ErrArg}},
		{cans(0, 5), spanOf{e: api.ErrArg}},
		{cans(100000, 1), spanOf{e: api.ErrArg}},
		{slices.Repeat(cans(7, 7), 20), spanOf{rg(0, 0), api.OK}},
		{slices.Repeat(cans(7, 7), 21), spanOf{e: api.ErrMany}},
		{slices.Repeat(cans(-1, 0), 21), spanOf{e: api.ErrMany}},
		{nil, spanOf{e: api.ErrMany}},
		{cans(7, 0), spanOf{e: api.ErrRange}},
		{cans(-1, 7), spanOf{e: api.ErrRange}},
		{cans(100001, 100000), spanOf{e: api.ErrRange}},
		{cans(100000, 100001), spanOf{e: api.ErrRange}},
		{cans(least, most), spanOf{e: api.ErrRange}},
		// all cans are looked at for the one error before any of them is for the other one
		{cans(0, 5, 7, 0), spanOf{e: api.ErrRange}},
	} {
		want(t, worn(x.cans), x.want, i)
	}
}

// off reports whether a meter that shows so of a can is off by at least lo, and at most hi.
func off(c api.StockCan, lo, hi int64) bool {
	return lo*c.True <= 1000*(c.Shown-c.True) && 1000*(c.Shown-c.True) <= hi*c.True
}

// wornBy returns what Worn is to return of valid cans, by trying all whole numbers.
func wornBy(cans []api.StockCan) spanOf {
	all := func(lo, hi int64) bool {
		return !slices.ContainsFunc(cans, func(c api.StockCan) bool { return !off(c, lo, hi) })
	}
	if !all(-100, 100) {
		return spanOf{e: api.ErrArg}
	}
	r := rg(-100, 100)
	for all(r.Lo+1, r.Hi) {
		r.Lo++
	}
	for all(r.Lo, r.Hi-1) {
		r.Hi--
	}
	return spanOf{r, api.OK}
}

// cans returns up to 20 cans of which a meter is hardly off by too much.
func (d *die) cans() []api.StockCan {
	var l []api.StockCan
	scale := []int64{20, 2000, 90000}[d.roll(0, 2)]
	for range d.roll(1, 1+d.roll(0, 19)) {
		litres := d.roll(1, scale)
		l = append(l, api.StockCan{Shown: litres + d.roll(-litres/10-d.roll(0, 1)/(1+litres/10), litres/10), True: litres})
	}
	return l
}

// P3.7: against all whole numbers.
func TestWornAgainstTheDefinition(t *testing.T) {
	var d die
	counts := map[api.Errno]int{}
	for range 5000 {
		l := d.cans()
		wanted := wornBy(l)
		want(t, worn(l), wanted, l)
		counts[wanted.e]++
	}
	if counts[api.OK] < 500 || counts[api.ErrArg] < 100 {
		t.Error(counts)
	}
}

// P3.13: each can has litres that are possible if the meter is off as Worn says.
func TestCansAreWhatMeterSays(t *testing.T) {
	var d die
	for range 5000 {
		l := d.cans()
		all := worn(l)
		if all.e != api.OK {
			continue
		}
		for _, c := range l {
			for _, by := range []spanOf{all, worn([]api.StockCan{c})} {
				r := meter(c.Shown, by.litres)
				if r.e != api.OK || c.True < r.litres.Lo || c.True > r.litres.Hi {
					t.Fatal(l, c, by, r)
				}
			}
		}
	}
}
