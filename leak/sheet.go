package leak

import (
	"iter"
	"maps"
	"slices"

	"forecourt/api"
)

// sheet is what matters of readings: the hull of their upper ends, and that of
// their lower ends turned round. Lines go through all readings just if they are
// above no point of the roof, and, turned round, above none of the floor.
//
// Only what is greatest is looked for: what is least is greatest, with the other
// sign, if the sheet is turned round.
type sheet struct {
	roof, floor hull
}

// sheetOf returns the sheet of readings.
func sheetOf(l []api.LeakRead) sheet {
	return sheet{
		roof:  hullOf(l, upper),
		floor: hullOf(l, func(r api.LeakRead) mark { return lower(r).turned() }),
	}
}

// turned returns the sheet turned round.
func (s sheet) turned() sheet { return sheet{roof: s.floor, floor: s.roof} }

// seen returns the sheet so that the end that is asked for is its greatest one.
func (s sheet) seen(high bool) sheet {
	if high {
		return s
	}
	return s.turned()
}

// alone reports whether the sheet is that of just one reading.
func (s sheet) alone() bool { return len(s.roof) == 1 }

// bounds yields the names of readings that bound the rates from above, and the numbers by which they do.
func (s sheet) bounds(yield func([2]int, api.Ratio) bool) {
	for from := range s.floor.points {
		for to := range s.roof.points {
			if from.time >= to.time {
				continue
			}
			names := [2]int{from.name, to.name}
			if !yield(names, api.Ratio{Num: to.lost + from.lost, Den: to.time - from.time}) {
				return
			}
		}
	}
}

// slopes yields the numbers of bounds.
func (s sheet) slopes(yield func(api.Ratio) bool) {
	for _, rate := range s.bounds {
		if !yield(rate) {
			return
		}
	}
}

// tightest returns the two readings that bound the rates from above by the
// least number, the first ones of several. There are at least two readings.
func (s sheet) tightest() [2]int {
	kept := map[[2]int]api.Ratio{}
	for names, rate := range s.bounds {
		kept[names] = rate
	}
	best := least(maps.Values(kept))
	for names, rate := range kept {
		if above(rate, best) {
			delete(kept, names)
		}
	}
	return slices.MinFunc(slices.Collect(maps.Keys(kept)), func(one, two [2]int) int {
		return slices.Compare(one[:], two[:])
	})
}

// tops yields what no line through all readings can be above by a time; one of
// them is at the least of these. Between two upper ends no line is above the
// line through both; beyond an upper end none is above the line that comes there
// from a lower one.
func (s sheet) tops(time int64) iter.Seq[api.Ratio] {
	return func(yield func(api.Ratio) bool) {
		for one, two := range s.roof.edges {
			if within(one.time, two.time, time) && !yield(lostBy(time, one.mark, two.mark)) {
				return
			}
		}
		for from := range s.floor.points {
			for to := range s.roof.points {
				if leads(from.time, to.time, time) && !yield(lostBy(time, from.mark.turned(), to.mark)) {
					return
				}
			}
		}
	}
}

// leads reports whether the way from one time to another one comes by a third
// one, which is not where it begins, but can be where it ends.
func leads(from, by, to int64) bool {
	return from < by && by <= to || to <= by && by < from
}

// lostBy returns what is lost by a time on the line through two marks.
func lostBy(time int64, one, two mark) api.Ratio {
	if one.time > two.time {
		one, two = two, one
	}
	gap := two.time - one.time
	return api.Ratio{Num: one.lost*gap + (two.lost-one.lost)*(time-one.time), Den: gap}
}

// ends returns the least and the greatest number that lines can have, in least
// terms. What is told of a sheet are numbers above which no line is, and of
// which some line has the least one.
func (s sheet) ends(told func(sheet) iter.Seq[api.Ratio]) (low, high api.Ratio) {
	low = minus(least(told(s.seen(false))))
	return reduced(low), reduced(least(told(s.seen(true))))
}

// agreed is a sheet through which lines go, with the least and the greatest of
// their rates. They have no meaning if there is just one reading.
type agreed struct {
	sheet
	low, high api.Ratio
}

// agree returns readings that agree, or ErrClash.
//
// A line of some rate goes through all readings just if no lower end is above an
// upper one after both are moved along this rate to the same time; this is what
// the two readings allow. So there is a line just if their bounds leave a rate.
func agree(l []api.LeakRead) (agreed, api.Errno) {
	a := agreed{sheet: sheetOf(l)}
	if a.alone() {
		return a, api.OK
	}
	a.low, a.high = a.ends(func(s sheet) iter.Seq[api.Ratio] { return s.slopes })
	if above(a.low, a.high) {
		return agreed{}, api.ErrClash
	}
	return a, api.OK
}

// leaks reports whether a leak above a rate is certain.
func (a agreed) leaks(most api.Ratio) bool { return !a.alone() && above(a.low, most) }

// several returns readings that agree, of which there are at least two, or the error of Rates and Bounds.
func several(l []api.LeakRead) (agreed, api.Errno) {
	if e := CheckReads(l); e != api.OK {
		return agreed{}, e
	}
	a, e := agree(l)
	if e == api.OK && a.alone() {
		return agreed{}, api.ErrOver
	}
	return a, e
}

// through returns the line from the lower end of a reading through the upper end of a later one.
// Its Start has an amount of at most 3 * 10^12, and so is less than MaxLeakNumber.
func through(from, to api.LeakRead) api.LeakLine {
	gap, rise := to.Time-from.Time, to.Lost.Hi-from.Lost.Lo
	return api.LeakLine{Start: from.Lost.Lo*gap - rise*from.Time, Rate: rise, Den: gap}
}

// clash reports whether three readings, in the order of time, clash.
func clash(one, two, three api.LeakRead) bool {
	return upper(two).under(lower(one), lower(three)) ||
		lower(two).turned().under(upper(one).turned(), upper(three).turned())
}

// clashing returns the names of the first three readings that clash, and whether there are any.
func clashing(l []api.LeakRead) (three [3]int, found bool) {
search:
	for i := range l {
		for j := i + 1; j < len(l); j++ {
			for k := j + 1; k < len(l); k++ {
				if clash(l[i], l[j], l[k]) {
					three, found = [3]int{i, j, k}, true
					break search
				}
			}
		}
	}
	return three, found
}
