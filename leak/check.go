package leak

import "forecourt/api"

// within reports whether all numbers are from least to most.
func within(least, most int64, numbers ...int64) bool {
	for _, n := range numbers {
		if n < least || n > most {
			return false
		}
	}
	return true
}

// rising reports whether names are strictly increasing, and from 0 to one less than count.
func rising(count int, names ...int) bool {
	before := -1
	for _, name := range names {
		if name <= before || name >= count {
			return false
		}
		before = name
	}
	return true
}

// validLoss reports whether r is a valid range of what can be lost.
func validLoss(r api.Range) bool {
	return r.Lo <= r.Hi && within(-api.MaxLeakLoss, api.MaxLeakLoss, r.Lo, r.Hi)
}

// validRate reports whether a fraction is a rate that can be given.
func validRate(r api.Ratio) bool {
	return within(-api.MaxLeakLoss, api.MaxLeakLoss, r.Num) && within(1, api.MaxLeakTime, r.Den)
}

// validLine reports whether the numbers of a line are within their limits.
func validLine(x api.LeakLine) bool {
	return within(-api.MaxLeakNumber, api.MaxLeakNumber, x.Start, x.Rate) && within(1, api.MaxLeakTime, x.Den)
}

// timesFit reports whether the times of readings are those of a sheet.
func timesFit(l []api.LeakRead) bool {
	before := int64(-1)
	for _, r := range l {
		if r.Time <= before || r.Time > api.MaxLeakTime {
			return false
		}
		before = r.Time
	}
	return true
}

// lossesFit reports whether what readings have lost is as in a sheet.
func lossesFit(l []api.LeakRead) bool {
	for _, r := range l {
		if !validLoss(r.Lost) {
			return false
		}
	}
	return true
}
