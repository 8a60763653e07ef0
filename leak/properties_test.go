package leak_test

import (
	"slices"
	"testing"

	"forecourt/api"
	"forecourt/leak"
)

// contains reports whether the ends of one are not inside those of another one.
func contains(outer, inner pairOf) bool {
	return !above(outer.low, inner.low) && !above(inner.high, outer.high)
}

// P2.10: long sheets either have a line that goes through all readings, or three of them clash.
func TestEitherAgreeOrClash(t *testing.T) {
	var d die
	seen := map[api.Errno]int{}
	for range 400 {
		l := d.around(d.line(), int(d.roll(2, 60)), 8)
		if d.roll(0, 1) == 0 {
			r := &l[d.roll(0, int64(len(l)-1))].Lost
			by := d.roll(-25, 25)
			r.Lo, r.Hi = r.Lo+by, r.Hi+by
		}
		x, e := leak.Line(l)
		three, clash := leak.Clash(l)
		switch {
		case e == api.OK && clash == api.ErrNone:
			want(t, leak.CheckLine(l, x), api.OK, l)
		case e == api.ErrClash && clash == api.OK:
			want(t, leak.CheckClash(l, three), api.OK, l)
			want(t, agrees([]api.LeakRead{l[three[0]], l[three[1]], l[three[2]]}), false, l, three)
		default:
			t.Fatal(l, e, clash)
		}
		seen[e]++
	}
	if seen[api.OK] < 50 || seen[api.ErrClash] < 50 {
		t.Fatal(seen)
	}
}

// P2.11: whatever the line is, its rate and what is lost on it are within both ends.
func TestLinesAreWithinRatesAndSpans(t *testing.T) {
	var d die
	for range 400 {
		x := d.line()
		l := d.around(x, int(d.roll(2, 60)), 5)
		rates := ratesOf(l)
		want(t, rates.e, api.OK, l)
		want(t, contains(rates, pairOf{low: rateOf(x), high: rateOf(x)}), true, l, x)
		for range 10 {
			time := d.roll(0, 600)
			span, loss := spanOf(l, time), lossBy(time)(x)
			want(t, span.e, api.OK, l, time)
			want(t, contains(span, pairOf{low: loss, high: loss}), true, l, x, time)
		}
	}
}

// P2.11: two readings prove each end of the rates, and a line through all readings has it.
func TestEndsOfRatesAreProvedAndReached(t *testing.T) {
	var d die
	for range 500 {
		l := d.around(d.line(), int(d.roll(2, 12)), 9)
		rates := ratesOf(l)
		for high, end := range map[bool]api.Ratio{false: rates.low, true: rates.high} {
			two, e := leak.Bounds(l, high)
			want(t, e, api.OK, l)
			rate, e := leak.CheckBounds(l, high, two)
			want(t, e, api.OK, l)
			want(t, rate, end, l, two)
			reached := slices.ContainsFunc(corners(l), func(x api.LeakLine) bool { return lowest(rateOf(x)) == end })
			want(t, reached, true, l, end)
		}
	}
}

// P2.12: a leak is certain once two readings, as wide as is told at the most, are as far from each other as Days says.
func TestLeaksAreFound(t *testing.T) {
	var d die
	for range 2000 {
		truth := api.LeakLine{Start: d.roll(-50, 50), Rate: d.roll(-20, 20), Den: 1}
		printed := of(truth.Rate*4-d.roll(1, 30), 4)
		wide := d.roll(0, 9)
		days, e := leak.Days(wide, rateOf(truth), printed)
		want(t, e, api.OK)
		l := []api.LeakRead{d.readingOf(truth, d.roll(0, 9), wide)}
		first := l[0].Time
		for time := first + 1; time < first+days; time += d.roll(1, 9) {
			l = append(l, d.readingOf(truth, time, 40))
		}
		l = append(l, d.readingOf(truth, first+days+d.roll(0, 1), wide))
		want(t, leak.Certain(l, printed), api.ErrLeak, l, truth, printed)
	}
}

// readingOf returns a reading, so wide, through which a line of whole numbers goes.
func (d *die) readingOf(x api.LeakLine, time, wide int64) api.LeakRead {
	lo := x.Start + x.Rate*time - d.roll(0, wide)
	return api.LeakRead{Time: time, Lost: rg(lo, lo+wide)}
}

// P2.12: no leak is certain if the truth has a rate of at most the printed one.
func TestNoLeakIsFoundWhereThereIsNone(t *testing.T) {
	var d die
	for range 1000 {
		truth := d.line()
		l := d.around(truth, int(d.roll(1, 20)), 6)
		printed := of(truth.Rate+d.roll(0, 1), truth.Den)
		want(t, leak.Certain(l, printed), api.OK, l, truth, printed)
		n, e := leak.First(l, printed)
		want(t, n, 0, l)
		want(t, e, api.ErrNone, l)
	}
}

// G2: it takes as many minutes as Days says, and not fewer, if the readings are as bad as can be.
func TestDaysAreNeeded(t *testing.T) {
	var d die
	for range 500 {
		rate, wide := d.roll(-5, 5), d.roll(1, 30)
		printed := of(rate*4-d.roll(1, 9), 4)
		days, e := leak.Days(wide, of(rate, 1), printed)
		want(t, e, api.OK)
		for _, less := range []int64{0, 1} {
			if days == less {
				continue
			}
			late := rate * (days - less)
			l := sheet(0, 0, wide, days-less, late-wide, late)
			if less == 0 {
				want(t, leak.Certain(l, printed), api.ErrLeak, l, printed)
			} else {
				want(t, leak.Certain(l, printed), api.OK, l, printed)
			}
		}
	}
}

// closer returns readings with one more, or with a narrower Lost.
func (d *die) closer(l []api.LeakRead) []api.LeakRead {
	l = copied(l)
	if d.roll(0, 1) == 0 {
		r := &l[d.roll(0, int64(len(l)-1))].Lost
		r.Lo = d.roll(r.Lo, r.Hi)
		r.Hi = d.roll(r.Lo, r.Hi)
		return l
	}
	time := d.roll(0, 60)
	at, found := slices.BinarySearchFunc(l, time, func(r api.LeakRead, time int64) int { return int(r.Time - time) })
	if found {
		return l
	}
	lo := d.roll(-30, 30)
	return slices.Insert(l, at, api.LeakRead{Time: time, Lost: rg(lo, lo+d.roll(0, 40))})
}

// P2.13
func TestNarrowerReadings(t *testing.T) {
	var d die
	compared := 0
	for range 3000 {
		l := d.agreed(2)
		closer := d.closer(l)
		if !agrees(closer) {
			continue
		}
		compared++
		want(t, contains(ratesOf(l), ratesOf(closer)), true, l, closer)
		for range 5 {
			time := d.roll(0, 80)
			want(t, contains(spanOf(l, time), spanOf(closer, time)), true, l, closer, time)
		}
		rate := of(d.roll(-25, 25), d.roll(1, 9))
		if leak.Certain(l, rate) == api.ErrLeak {
			want(t, leak.Certain(closer, rate), api.ErrLeak, l, closer, rate)
		}
	}
	if compared < 1000 {
		t.Fatal(compared)
	}
}

// P2.14: with all Lost turned round, rates and spans are turned as well.
func TestTurnedLosses(t *testing.T) {
	var d die
	for range 1000 {
		l := d.agreed(1)
		turned := copied(l)
		for i, r := range l {
			turned[i].Lost = rg(-r.Lost.Hi, -r.Lost.Lo)
		}
		a, b := ratesOf(l), ratesOf(turned)
		want(t, b, pairOf{less(a.high), less(a.low), a.e}, l)
		time := d.roll(0, 50)
		a, b = spanOf(l, time), spanOf(turned, time)
		want(t, b, pairOf{less(a.high), less(a.low), a.e}, l, time)
	}
}

// P2.14: with the times turned round, the rates are.
func TestTurnedTimes(t *testing.T) {
	var d die
	for range 1000 {
		l := d.agreed(2)
		last := l[len(l)-1].Time + d.roll(0, 9)
		turned := copied(l)
		for i := range turned {
			turned[i].Time = last - turned[i].Time
		}
		slices.Reverse(turned)
		a, b := ratesOf(l), ratesOf(turned)
		want(t, b, pairOf{less(a.high), less(a.low), a.e}, l)
		time := d.roll(0, last)
		want(t, spanOf(turned, last-time), spanOf(l, time), l, time)
	}
}

// P2.15: with one test more no part becomes a suspect, and no amount is added.
func TestOneTestMore(t *testing.T) {
	var d die
	for range 2000 {
		parts := int(d.roll(1, 6))
		tests := d.tests(parts)
		more := append(slices.Clone(tests), d.tests(parts)...)
		for part := range parts {
			before, after := amount(parts, tests, part), amount(parts, more, part)
			switch {
			case after.e == api.ErrNone:
			case before.e != api.OK || after.e != api.OK:
				t.Fatal(parts, more, before, after)
			case after.amounts.Lo < before.amounts.Lo || after.amounts.Hi > before.amounts.Hi:
				t.Fatal(parts, more, before, after)
			}
		}
	}
}

// P2.15: a section that holds all suspects, or none, leaves all of them.
func TestSectionsThatTellNothing(t *testing.T) {
	var d die
	for range 2000 {
		parts := int(d.roll(1, 8))
		tests := d.tests(parts)
		suspects, e := leak.Suspects(parts, tests)
		want(t, e, api.OK)
		var others, all []int
		for part := range parts {
			all = append(all, part)
			if !slices.Contains(suspects, part) {
				others = append(others, part)
			}
		}
		for _, section := range [][]int{all, suspects, others} {
			if len(section) == 0 {
				continue
			}
			_, left, e := leak.Next(parts, tests, [][]int{section})
			want(t, e, api.OK)
			want(t, left, len(suspects), parts, tests, section)
		}
	}
}
