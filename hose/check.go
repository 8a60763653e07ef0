package hose

import "forecourt/api"

// within reports whether all numbers are from least to most.
func within(least, most int64, numbers ...int64) bool {
	for _, n := range numbers {
		if n < least || n > most {
			return false
		}
	}
	return true
}

// indexes reports whether all numbers are indexes of a list of this length.
func indexes(length int, numbers ...int) bool {
	for _, n := range numbers {
		if n < 0 || n >= length {
			return false
		}
	}
	return true
}

// checkParts returns the first error of a job, but for circles.
func checkParts(j api.HoseJob) api.Errno {
	switch {
	case len(j.Caps) < 1 || len(j.Caps) > api.MaxHoseTanks:
		return api.ErrMany
	case len(j.Steps) > api.MaxHoseSteps || len(j.Before) > api.MaxHoseBefore:
		return api.ErrMany
	case len(j.Start) != len(j.Caps):
		return api.ErrEqual
	case !tanksFit(j) || !stepsFit(j):
		return api.ErrArg
	case !pairsFit(j):
		return api.ErrRange
	}
	return api.OK
}

// tanksFit reports whether each tank holds what is in it at first, and not more than a tank can.
func tanksFit(j api.HoseJob) bool {
	for tank, most := range j.Caps {
		if !within(0, api.MaxHoseLitres, most) || !within(0, most, j.Start[tank]) {
			return false
		}
	}
	return true
}

// stepsFit reports whether the steps of a job are as in a valid one.
func stepsFit(j api.HoseJob) bool {
	for _, s := range j.Steps {
		switch {
		case !indexes(len(j.Caps), s.Tank):
			return false
		case !within(-api.MaxHoseLitres, api.MaxHoseLitres, s.Change):
			return false
		case !indexes(1+api.MaxHoseHoses, s.Hose) || !indexes(1+api.MaxHoseKinds, s.Kind):
			return false
		case s.Hose == 0 && s.Kind != 0:
			return false
		}
	}
	return true
}

// pairsFit reports whether each pair of Before is of two different steps.
func pairsFit(j api.HoseJob) bool {
	for _, p := range j.Before {
		if !indexes(len(j.Steps), p[:]...) || p[0] == p[1] {
			return false
		}
	}
	return true
}
