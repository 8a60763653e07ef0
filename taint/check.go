package taint

import "forecourt/api"

// within reports whether all numbers are from least to most.
func within(least, most int64, numbers ...int64) bool {
	for _, n := range numbers {
		if n < least || n > most {
			return false
		}
	}
	return true
}

// indexes reports whether all numbers are indexes of a list of this length.
func indexes(length int, numbers ...int) bool {
	for _, n := range numbers {
		if n < 0 || n >= length {
			return false
		}
	}
	return true
}

// increasing reports whether a list is strictly increasing.
func increasing(list []int) bool {
	for i := 1; i < len(list); i++ {
		if list[i-1] >= list[i] {
			return false
		}
	}
	return true
}

// moveFits reports whether a move is as in a valid yard with so many vessels.
func moveFits(vessels int, m api.TaintMove) bool {
	return indexes(vessels, m.From, m.To) && m.From != m.To &&
		within(0, api.MaxTaintTime, m.Time.Lo, m.Time.Hi) && m.Time.Lo <= m.Time.Hi
}

// startFits reports whether a start is one of a valid yard.
func startFits(y api.TaintYard, s api.TaintStart) bool {
	return indexes(y.Vessels, s.Vessel) && within(0, api.MaxTaintTime, s.Time)
}

// checkStart returns the first error of all functions with a start.
func checkStart(y api.TaintYard, s api.TaintStart) api.Errno {
	e := CheckYard(y)
	if e == api.OK && !startFits(y, s) {
		return api.ErrArg
	}
	return e
}

// checkVessel returns the first error of all functions with a start and a vessel.
func checkVessel(y api.TaintYard, s api.TaintStart, vessel int) api.Errno {
	e := checkStart(y, s)
	if e == api.OK && !indexes(y.Vessels, vessel) {
		return api.ErrRange
	}
	return e
}

// arrivalFits reports whether a number can be one of arrivals.
func arrivalFits(n int64) bool { return n == api.TaintNever || within(0, api.MaxTaintTime, n) }
