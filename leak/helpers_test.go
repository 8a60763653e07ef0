package leak_test

import (
	"testing"

	"forecourt/api"
	"forecourt/leak"
)

const (
	least = -1 << 63
	most  = 1<<63 - 1
)

func rg(lo, hi int64) api.Range   { return api.Range{Lo: lo, Hi: hi} }
func of(num, den int64) api.Ratio { return api.Ratio{Num: num, Den: den} }

// above reports whether one ratio is greater than another one.
func above(one, two api.Ratio) bool { return one.Num*two.Den > two.Num*one.Den }

// less returns a ratio with the other sign.
func less(r api.Ratio) api.Ratio { return of(-r.Num, r.Den) }

// lowest returns a ratio in least terms, by trying all divisors but those that are too great.
func lowest(r api.Ratio) api.Ratio {
	if r.Num == 0 {
		return of(0, 1)
	}
	for d := r.Den; d > 1; d-- {
		if r.Num%d == 0 && r.Den%d == 0 {
			return of(r.Num/d, r.Den/d)
		}
	}
	return r
}

// sheet returns readings: time, least and greatest loss of each.
func sheet(l ...int64) []api.LeakRead {
	var out []api.LeakRead
	for i := 0; i < len(l); i += 3 {
		out = append(out, api.LeakRead{Time: l[i], Lost: rg(l[i+1], l[i+2])})
	}
	return out
}

// chapter returns R of the chapter; late returns it with 40 to 45 by 180, so that it clashes.
func chapter() []api.LeakRead { return sheet(0, 0, 10, 60, 5, 12, 120, 14, 20, 180, 29, 35) }
func late() []api.LeakRead    { return sheet(0, 0, 10, 60, 5, 12, 120, 14, 20, 180, 40, 45) }

// long returns so many readings.
func long(n int) []api.LeakRead {
	var out []api.LeakRead
	for i := range int64(n) {
		out = append(out, api.LeakRead{Time: i, Lost: rg(-1, 1)})
	}
	return out
}

// copied returns equal readings in other memory.
func copied(l []api.LeakRead) []api.LeakRead { return append([]api.LeakRead(nil), l...) }

// passes reports whether a line goes through all readings, by the definition.
func passes(x api.LeakLine, l []api.LeakRead) bool {
	for _, r := range l {
		if n := x.Start + x.Rate*r.Time; n < r.Lost.Lo*x.Den || n > r.Lost.Hi*x.Den {
			return false
		}
	}
	return true
}

// corners returns all lines through an end of one reading and one of another
// one that go through all readings. All lines through all readings are mixed of
// them; so there is one if there are any lines, and what is greatest, or least,
// is so on one of them.
func corners(l []api.LeakRead) []api.LeakLine {
	var lines []api.LeakLine
	for i, one := range l {
		for _, two := range l[i+1:] {
			for _, from := range []int64{one.Lost.Lo, one.Lost.Hi} {
				for _, to := range []int64{two.Lost.Lo, two.Lost.Hi} {
					gap := two.Time - one.Time
					x := api.LeakLine{Start: from*gap - (to-from)*one.Time, Rate: to - from, Den: gap}
					if passes(x, l) {
						lines = append(lines, x)
					}
				}
			}
		}
	}
	return lines
}

// agrees reports whether some line goes through all readings.
func agrees(l []api.LeakRead) bool { return len(l) == 1 || len(corners(l)) > 0 }

// spread returns the least and the greatest of what is told of the corners of readings, in least terms.
func spread(l []api.LeakRead, told func(api.LeakLine) api.Ratio) (low, high api.Ratio) {
	for i, x := range corners(l) {
		r := told(x)
		if i == 0 || above(low, r) {
			low = r
		}
		if i == 0 || above(r, high) {
			high = r
		}
	}
	return lowest(low), lowest(high)
}

func rateOf(x api.LeakLine) api.Ratio { return of(x.Rate, x.Den) }

// lossBy returns what tells the loss by a time.
func lossBy(time int64) func(api.LeakLine) api.Ratio {
	return func(x api.LeakLine) api.Ratio { return of(x.Start+x.Rate*time, x.Den) }
}

// certain reports whether a leak above a rate is certain.
func certain(l []api.LeakRead, most api.Ratio) bool {
	if len(l) == 1 || !agrees(l) {
		return false
	}
	low, _ := spread(l, rateOf)
	return above(low, most)
}

// pairOf is two ratios with an error, as Rates and Span return them.
type pairOf struct {
	low, high api.Ratio
	e         api.Errno
}

func ratesOf(l []api.LeakRead) pairOf {
	low, high, e := leak.Rates(l)
	return pairOf{low, high, e}
}

func spanOf(l []api.LeakRead, time int64) pairOf {
	low, high, e := leak.Span(l, time)
	return pairOf{low, high, e}
}

// failed is what they return with an error.
func failed(e api.Errno) pairOf { return pairOf{e: e} }

// die gives numbers in a fixed order that looks like none.
type die uint64

func (d *die) roll(lo, hi int64) int64 {
	*d = *d*6364136223846793005 + 1442695040888963407
	return lo + int64(uint64(*d>>33)%uint64(hi-lo+1))
}

// sheet returns a small sheet of from 1 to 7 readings, whose readings may agree or not.
func (d *die) sheet() []api.LeakRead {
	var l []api.LeakRead
	time, rate := d.roll(0, 3), d.roll(-3, 3)
	for range d.roll(1, 7) {
		lo := rate*time + d.roll(-6, 2)
		l = append(l, api.LeakRead{Time: time, Lost: rg(lo, lo+d.roll(0, 9))})
		time += d.roll(1, 6)
	}
	return l
}

// agreed returns a small sheet of at least so many readings that agree.
func (d *die) agreed(n int) []api.LeakRead {
	for {
		if l := d.sheet(); len(l) >= n && agrees(l) {
			return l
		}
	}
}

// around returns readings through which a line goes, so wide at the most.
func (d *die) around(x api.LeakLine, n int, wide int64) []api.LeakRead {
	var l []api.LeakRead
	time := d.roll(0, 9)
	for range n {
		loss := x.Start + x.Rate*time
		lo, hi := loss/x.Den-1-d.roll(0, wide), loss/x.Den+1+d.roll(0, wide)
		l = append(l, api.LeakRead{Time: time, Lost: rg(lo, hi)})
		time += d.roll(1, 9)
	}
	return l
}

// line returns a line with small numbers.
func (d *die) line() api.LeakLine {
	return api.LeakLine{Start: d.roll(-50, 50), Rate: d.roll(-20, 20), Den: d.roll(1, 9)}
}

// huge returns a sheet with ends and times that are as great as can be, or near to it.
func (d *die) huge() []api.LeakRead {
	const end = api.MaxLeakLoss
	l := []api.LeakRead{{Time: d.roll(0, 2)}, {Time: d.roll(3, 9)}, {Time: d.roll(99990, 99995)}, {Time: d.roll(99996, 100000)}}
	for i := range l {
		one, two := d.roll(-end, end), d.roll(-end, end)
		if d.roll(0, 2) == 0 {
			one = end * d.roll(-1, 1)
		}
		if d.roll(0, 2) == 0 {
			two = end * d.roll(-1, 1)
		}
		l[i].Lost = rg(min(one, two), max(one, two))
	}
	return l
}

// want fails the test if a result is not as it is to be.
func want[T comparable](t *testing.T, got, wanted T, about ...any) {
	t.Helper()
	if got != wanted {
		t.Fatalf("%v: got %v, want %v", about, got, wanted)
	}
}
