package order

import "forecourt/api"

// within reports whether all numbers are from least to most.
func within[T int | int64](least, most T, numbers ...T) bool {
	for _, n := range numbers {
		if n < least || n > most {
			return false
		}
	}
	return true
}

// rangesFit reports whether all ranges are valid, with ends from 0 to most.
func rangesFit(most int64, ranges ...api.Range) bool {
	for _, r := range ranges {
		if !within(0, most, r.Lo, r.Hi) || r.Lo > r.Hi {
			return false
		}
	}
	return true
}

// isTruth reports whether a start, and as many sales as a valid kind has, are a truth of it.
func isTruth(k api.OrderKind, start int64, sales []int64) bool {
	for day, r := range k.Sales {
		if !within(r.Lo, r.Hi, sales[day]) {
			return false
		}
	}
	return within(k.Start.Lo, k.Start.Hi, start)
}

// checkLoads returns the first error of a plan of a valid kind that does not look at litres.
func checkLoads(k api.OrderKind, plan []int) api.Errno {
	switch {
	case len(plan) != len(k.Sales):
		return api.ErrEqual
	case !within(0, k.Most, plan...):
		return api.ErrRange
	}
	return api.OK
}
