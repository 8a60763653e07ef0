package leak_test

import (
	"testing"

	"forecourt/api"
	"forecourt/leak"
)

// P2.4: Rates and Bounds against all corners of small sheets, and of great ones.
func TestRates(t *testing.T) {
	var d die
	seen := map[api.Errno]int{}
	for i := range 4000 {
		l := d.sheet()
		if i%4 == 0 {
			l = d.huge()
		}
		got := ratesOf(l)
		seen[got.e]++
		switch {
		case !agrees(l):
			want(t, got, failed(api.ErrClash), l)
		case len(l) == 1:
			want(t, got, failed(api.ErrOver), l)
		case i%4 != 0:
			low, high := spread(l, rateOf)
			want(t, got, pairOf{low, high, api.OK}, l)
		default: // too great to put into least terms here
			low, high := corners(l)[0], corners(l)[0]
			for _, x := range corners(l) {
				if above(rateOf(low), rateOf(x)) {
					low = x
				}
				if above(rateOf(x), rateOf(high)) {
					high = x
				}
			}
			want(t, above(got.low, rateOf(low)) || above(rateOf(low), got.low), false, l, got)
			want(t, above(got.high, rateOf(high)) || above(rateOf(high), got.high), false, l, got)
		}
		for _, high := range []bool{false, true} {
			two, e := leak.Bounds(l, high)
			want(t, e, got.e, l)
			if e != api.OK {
				want(t, two, [2]int{}, l)
				continue
			}
			rate, e := leak.CheckBounds(l, high, two)
			want(t, e, api.OK, l, two)
			if high {
				want(t, rate, got.high, l, two)
			} else {
				want(t, rate, got.low, l, two)
			}
		}
	}
	for _, e := range []api.Errno{api.OK, api.ErrClash, api.ErrOver} {
		if seen[e] < 100 {
			t.Fatal(seen)
		}
	}
}

// P2.4: rates of sheets that are told by heart.
func TestRatesOfSomeSheets(t *testing.T) {
	for i, x := range []struct {
		l []api.LeakRead
		r pairOf
	}{
		{sheet(0, 0, 0, 6, 4, 4), pairOf{of(2, 3), of(2, 3), api.OK}},
		{sheet(0, 0, 10, 5, 0, 10), pairOf{of(-2, 1), of(2, 1), api.OK}},
		{sheet(0, 5, 5, 8, 5, 5), pairOf{of(0, 1), of(0, 1), api.OK}},
		{sheet(0, 0, 1, 2, 0, 1, 4, 0, 1, 6, 0, 1), pairOf{of(-1, 6), of(1, 6), api.OK}},
		{sheet(0, -10000000, 10000000, 1, -10000000, 10000000), pairOf{of(-20000000, 1), of(20000000, 1), api.OK}},
		{sheet(0, 0, 0, 100000, 1, 1), pairOf{of(1, 100000), of(1, 100000), api.OK}},
		{sheet(0, 0, 0, 100000, 2, 2), pairOf{of(1, 50000), of(1, 50000), api.OK}},
		{sheet(0, 0, 0, 1, 1, 1, 2, 3, 3), failed(api.ErrClash)},
		{sheet(100000, 0, 0), failed(api.ErrOver)},
	} {
		want(t, ratesOf(x.l), x.r, i)
	}
}

// P2.4: CheckBounds tells what lines through just two readings can have, even if all readings do not agree.
func TestCheckBounds(t *testing.T) {
	var d die
	for range 500 {
		l := d.sheet()
		for i := range l {
			for k := i + 1; k < len(l); k++ {
				low, high := spread([]api.LeakRead{l[i], l[k]}, rateOf)
				rate, e := leak.CheckBounds(l, false, [2]int{i, k})
				want(t, rate, low, l, i, k)
				want(t, e, api.OK)
				rate, e = leak.CheckBounds(l, true, [2]int{i, k})
				want(t, rate, high, l, i, k)
				want(t, e, api.OK)
			}
		}
	}
	for _, two := range [][2]int{{0, 0}, {3, 3}, {1, 0}, {3, 2}, {-1, 0}, {0, 4}, {4, 5}, {least, 0}, {0, most}, {most, least}} {
		for _, high := range []bool{false, true} {
			for _, l := range [][]api.LeakRead{chapter(), late()} {
				rate, e := leak.CheckBounds(l, high, two)
				want(t, rate, api.Ratio{}, two)
				want(t, e, api.ErrRange, two)
			}
		}
	}
	_, e := leak.CheckBounds(sheet(0, 0, 0), true, [2]int{0, 0})
	want(t, e, api.ErrRange)
}

// P2.5: Span against all corners of small sheets, at readings, between them and beyond them.
func TestSpan(t *testing.T) {
	var d die
	for range 1000 {
		l := d.sheet()
		last := l[len(l)-1].Time
		for time := int64(0); time <= last+5; time++ {
			got := spanOf(l, time)
			switch {
			case !agrees(l):
				want(t, got, failed(api.ErrClash), l, time)
			case len(l) > 1:
				low, high := spread(l, lossBy(time))
				want(t, got, pairOf{low, high, api.OK}, l, time)
			case l[0].Time == time:
				want(t, got, pairOf{of(l[0].Lost.Lo, 1), of(l[0].Lost.Hi, 1), api.OK}, l)
			default:
				want(t, got, failed(api.ErrOver), l, time)
			}
		}
	}
}

// P2.5: spans of great numbers, as fractions that need not be in least terms.
func TestSpanOfGreatNumbers(t *testing.T) {
	var d die
	found := 0
	for range 3000 {
		l := d.huge()
		if !agrees(l) {
			continue
		}
		found++
		for _, time := range []int64{0, 1, 50000, 99999, 100000, d.roll(0, 100000), l[1].Time, l[2].Time} {
			got := spanOf(l, time)
			want(t, got.e, api.OK, l)
			atLow, atHigh := false, false
			for _, x := range corners(l) {
				loss := lossBy(time)(x)
				if above(got.low, loss) || above(loss, got.high) {
					t.Fatal(l, time, got, x)
				}
				atLow, atHigh = atLow || !above(loss, got.low), atHigh || !above(got.high, loss)
			}
			if !atLow || !atHigh {
				t.Fatal(l, time, got)
			}
		}
	}
	if found < 200 {
		t.Fatal(found)
	}
	want(t, spanOf(sheet(99999, -10000000, 10000000, 100000, -10000000, 10000000), 0), pairOf{of(-1999990000000, 1), of(1999990000000, 1), api.OK})
	want(t, spanOf(sheet(0, -10000000, 10000000, 1, -10000000, 10000000), 100000), pairOf{of(-1999990000000, 1), of(1999990000000, 1), api.OK})
}

// P2.5: a time out of range comes before a clash, and a clash before a single reading.
func TestSpanErrors(t *testing.T) {
	for i, x := range []struct {
		l    []api.LeakRead
		time int64
		r    pairOf
	}{
		{late(), -1, failed(api.ErrRange)},
		{late(), 100001, failed(api.ErrRange)},
		{late(), 0, failed(api.ErrClash)},
		{late(), 100000, failed(api.ErrClash)},
		{chapter(), least, failed(api.ErrRange)},
		{chapter(), most, failed(api.ErrRange)},
		{sheet(7, 1, 2), 100001, failed(api.ErrRange)},
		{sheet(7, 1, 2), 8, failed(api.ErrOver)},
		{sheet(7, 1, 2), 0, failed(api.ErrOver)},
		{sheet(7, 1, 2), 7, pairOf{of(1, 1), of(2, 1), api.OK}},
		{sheet(0, 0, 0), 0, pairOf{of(0, 1), of(0, 1), api.OK}},
		{sheet(100000, -9, -4), 100000, pairOf{of(-9, 1), of(-4, 1), api.OK}},
	} {
		want(t, spanOf(x.l, x.time), x.r, i)
	}
}

// P2.4, P2.5: ends of a long sheet that bends, so that all readings matter.
func TestLongSheetThatBends(t *testing.T) {
	l := long(60)
	for i := range l {
		x := int64(i)
		l[i].Time = x * 1000
		l[i].Lost = rg(-(x-30)*(x-30)*100-5000, (x-20)*(x-20)*100+5000)
	}
	low, high := spread(l, rateOf)
	want(t, ratesOf(l), pairOf{low, high, api.OK})
	for time := int64(0); time <= 100000; time += 2500 {
		low, high := spread(l, lossBy(time))
		want(t, spanOf(l, time), pairOf{low, high, api.OK}, time)
	}
}
