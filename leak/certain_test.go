package leak_test

import (
	"testing"

	"forecourt/api"
	"forecourt/leak"
)

// badRates are fractions that are not a rate.
func badRates() []api.Ratio {
	return []api.Ratio{
		{}, of(1, 0), of(1, -1), of(1, 100001), of(10000001, 1), of(-10000001, 1),
		of(least, 1), of(most, 1), of(1, least), of(1, most), of(least, least), of(10000001, 100001),
	}
}

// P2.6: Certain and First against all corners of small sheets.
func TestCertainAndFirst(t *testing.T) {
	var d die
	seen := map[api.Errno]int{}
	for range 4000 {
		l := d.sheet()
		rate := of(d.roll(-25, 25), d.roll(1, 9))
		e := leak.Certain(l, rate)
		seen[e]++
		switch {
		case !agrees(l):
			want(t, e, api.ErrClash, l, rate)
		case certain(l, rate):
			want(t, e, api.ErrLeak, l, rate)
		default:
			want(t, e, api.OK, l, rate)
		}
		first := 0
		for n := len(l); n > 0; n-- {
			if certain(l[:n], rate) {
				first = n
			}
		}
		n, e := leak.First(l, rate)
		want(t, n, first, l, rate)
		if first == 0 {
			want(t, e, api.ErrNone, l, rate)
		} else {
			want(t, e, api.OK, l, rate)
		}
	}
	for _, e := range []api.Errno{api.OK, api.ErrClash, api.ErrLeak} {
		if seen[e] < 100 {
			t.Fatal(seen)
		}
	}
}

// P2.6: rates that are reached, those that are not in least terms, and limits.
func TestCertainOfSomeSheets(t *testing.T) {
	great := sheet(0, 10000000, 10000000, 1, 10000000, 10000000)
	for i, x := range []struct {
		l    []api.LeakRead
		most api.Ratio
		e    api.Errno
		n    int
		f    api.Errno
	}{
		{chapter(), of(3, 20), api.OK, 0, api.ErrNone},
		{chapter(), of(15, 100), api.OK, 0, api.ErrNone},
		{chapter(), of(14999, 100000), api.ErrLeak, 4, api.OK},
		{chapter(), of(15001, 100000), api.OK, 0, api.ErrNone},
		{chapter(), of(-10, 100), api.ErrLeak, 2, api.OK},
		{chapter(), of(-1, 12), api.ErrLeak, 3, api.OK},
		{chapter()[:2], of(-1, 12), api.OK, 0, api.ErrNone},
		{chapter()[:2], of(-8334, 100000), api.ErrLeak, 2, api.OK},
		{late(), of(1, 100), api.ErrClash, 3, api.OK},
		{late(), of(1, 10), api.ErrClash, 0, api.ErrNone},
		{sheet(5, 3, 3), of(-10000000, 1), api.OK, 0, api.ErrNone},
		{sheet(0, 0, 0, 1, 7, 7, 2, 7, 7), of(6, 1), api.ErrClash, 2, api.OK},
		{sheet(0, 0, 0, 1, 7, 7, 2, 7, 7), of(7, 1), api.ErrClash, 0, api.ErrNone},
		{great, of(-10000000, 1), api.ErrLeak, 2, api.OK},
		{great, of(10000000, 1), api.OK, 0, api.ErrNone},
		{great, of(10000000, 100000), api.OK, 0, api.ErrNone},
		{great, of(-1, 100000), api.ErrLeak, 2, api.OK},
		{sheet(0, 0, 0, 100000, 1, 1), of(0, 100000), api.ErrLeak, 2, api.OK},
		{sheet(0, 0, 0, 100000, 1, 1), of(1, 100000), api.OK, 0, api.ErrNone},
	} {
		want(t, leak.Certain(x.l, x.most), x.e, i)
		n, e := leak.First(x.l, x.most)
		want(t, n, x.n, i)
		want(t, e, x.f, i)
	}
}

// P2.6: what is no rate comes before a clash.
func TestCertainOfNoRate(t *testing.T) {
	for _, r := range badRates() {
		for _, l := range [][]api.LeakRead{chapter(), late(), sheet(0, 0, 0)} {
			want(t, leak.Certain(l, r), api.ErrRange, r)
			n, e := leak.First(l, r)
			want(t, n, 0, r)
			want(t, e, api.ErrRange, r)
		}
	}
}

// enough reports whether so many minutes are enough, by the definition.
func enough(wide, days int64, rate, most api.Ratio) bool {
	return rate.Num*most.Den*days > most.Num*rate.Den*days+2*wide*rate.Den*most.Den
}

// P2.7
func TestDays(t *testing.T) {
	var d die
	for range 3000 {
		wide := d.roll(0, 40)
		rate, most := of(d.roll(-30, 30), d.roll(1, 12)), of(d.roll(-30, 30), d.roll(1, 12))
		days, e := leak.Days(wide, rate, most)
		if !above(rate, most) {
			want(t, days, 0, wide, rate, most)
			want(t, e, api.ErrRange, wide, rate, most)
			continue
		}
		first := int64(1)
		for !enough(wide, first, rate, most) {
			first++
		}
		want(t, days, first, wide, rate, most)
		want(t, e, api.OK)
	}
}

// P2.7: limits, and errors in their order.
func TestDaysOfSomeNumbers(t *testing.T) {
	for i, x := range []struct {
		wide       int64
		rate, most api.Ratio
		days       int64
		e          api.Errno
	}{
		{5, of(10, 60), of(100, 1000), 151, api.OK},
		{0, of(10000000, 1), of(-10000000, 1), 1, api.OK},
		{10000000, of(10000000, 1), of(-10000000, 1), 2, api.OK},
		{10000000, of(1, 99999), of(1, 100000), 199998000000000001, api.OK},
		{10000000, of(0, 100000), of(-1, 100000), 2000000000001, api.OK},
		{10000000, of(100, 100000), of(99, 100000), 2000000000001, api.OK},
		{7, of(1, 1), of(0, 100000), 15, api.OK},
		{-1, of(1, 1), of(0, 1), 0, api.ErrArg},
		{10000001, of(1, 1), of(0, 1), 0, api.ErrArg},
		{least, of(1, 0), of(0, 1), 0, api.ErrArg},
		{most, of(1, 1), of(2, 1), 0, api.ErrArg},
		{1, of(1, 1), of(1, 1), 0, api.ErrRange},
		{1, of(2, 6), of(1, 3), 0, api.ErrRange},
		{1, of(-1, 3), of(-1, 4), 0, api.ErrRange},
	} {
		days, e := leak.Days(x.wide, x.rate, x.most)
		want(t, days, x.days, i)
		want(t, e, x.e, i)
	}
	for _, r := range badRates() {
		days, e := leak.Days(1, r, of(-10000000, 1))
		want(t, days, 0, r)
		want(t, e, api.ErrRange, r)
		days, e = leak.Days(1, of(10000000, 1), r)
		want(t, days, 0, r)
		want(t, e, api.ErrRange, r)
	}
}
