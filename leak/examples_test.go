package leak_test

import (
	"slices"
	"testing"

	"forecourt/api"
	"forecourt/leak"
)

// The examples of the chapter about readings. Its line of Start 2 and Rate 3/20 is that of 40 / 20 and 3 / 20.
func TestExamplesOfReadings(t *testing.T) {
	r := chapter()
	want(t, leak.CheckLine(r, api.LeakLine{Start: 40, Rate: 3, Den: 20}), api.OK)
	want(t, leak.CheckLine(r, api.LeakLine{Start: 0, Rate: 1, Den: 7}), api.ErrRule)
	want(t, ratesOf(r), pairOf{of(3, 20), of(1, 6), api.OK})
	for _, x := range []struct {
		high bool
		two  [2]int
		rate api.Ratio
	}{{true, [2]int{0, 2}, of(1, 6)}, {false, [2]int{2, 3}, of(3, 20)}} {
		rate, e := leak.CheckBounds(r, x.high, x.two)
		want(t, rate, x.rate)
		want(t, e, api.OK)
	}
	want(t, spanOf(r, 0), pairOf{of(0, 1), of(2, 1), api.OK})
	want(t, spanOf(r, 240), pairOf{of(38, 1), of(40, 1), api.OK})
	want(t, leak.Certain(r, of(1, 10)), api.ErrLeak)
	want(t, leak.Certain(r, of(3, 20)), api.OK)
	for _, x := range []struct {
		most api.Ratio
		n    int
		e    api.Errno
	}{{of(1, 10), 4, api.OK}, {of(1, 100), 3, api.OK}, {of(1, 6), 0, api.ErrNone}} {
		n, e := leak.First(r, x.most)
		want(t, n, x.n)
		want(t, e, x.e)
	}
	_, e := leak.Clash(late())
	want(t, e, api.OK)
	want(t, leak.CheckClash(late(), [3]int{0, 2, 3}), api.OK)
	days, e := leak.Days(5, of(1, 6), of(1, 10))
	want(t, days, 151)
	want(t, e, api.OK)
}

// The examples of the chapter about parts.
func TestExamplesOfParts(t *testing.T) {
	tests := []api.LeakTest{test(3, 9, 0, 1), test(-1, 5, 1, 2)}
	s, e := leak.Suspects(4, tests)
	want(t, e, api.OK)
	want(t, slices.Equal(s, []int{0, 1}), true, s)
	for part, x := range []amountOf{{rg(3, 9), api.OK}, {rg(3, 5), api.OK}, {rg(0, 0), api.ErrNone}} {
		want(t, amount(4, tests, part), x, part)
	}
}
