package leak

import "forecourt/api"

// section is which parts a list has; one that is not a section has none.
type section [api.MaxLeakParts]bool

// sectionOf returns the section of a list of parts.
func sectionOf(parts int, list []int) section {
	var s section
	if !rising(parts, list...) {
		return s
	}
	for _, part := range list {
		s[part] = true
	}
	return s
}

// left returns how many suspects are left after a test of the section.
func (s section) left(suspects section) int {
	in, out := 0, 0
	for part, suspect := range suspects {
		switch {
		case suspect && s[part]:
			in++
		case suspect:
			out++
		}
	}
	return max(in, out)
}

// trial is a standing test, with the section that it tested.
type trial struct {
	tested section
	lost   api.Range
}

// station is parts, and the trials of their sections.
type station struct {
	parts  int
	trials []trial
}

// partsFit reports whether a station can have so many parts.
func partsFit(parts int) bool { return within(1, api.MaxLeakParts, int64(parts)) }

// stationOf returns a station, or the error of Suspects.
func stationOf(parts int, tests []api.LeakTest) (station, api.Errno) {
	if !partsFit(parts) {
		return station{}, api.ErrArg
	}
	if len(tests) > api.MaxLeakTests {
		return station{}, api.ErrMany
	}
	s := station{parts: parts}
	for _, t := range tests {
		tested := sectionOf(parts, t.Parts)
		if tested == (section{}) || !validLoss(t.Lost) {
			return station{}, api.ErrRange
		}
		s.trials = append(s.trials, trial{tested, t.Lost})
	}
	return s, api.OK
}

// canLose returns the amounts that a part can lose, and whether there are any.
func (s station) canLose(part int) (api.Range, bool) {
	amounts := api.Range{Lo: 1, Hi: api.MaxLeakLoss}
	for _, t := range s.trials {
		if t.tested[part] {
			amounts.Lo, amounts.Hi = max(amounts.Lo, t.lost.Lo), min(amounts.Hi, t.lost.Hi)
		} else if !within(t.lost.Lo, t.lost.Hi, 0) {
			return api.Range{}, false
		}
	}
	return amounts, amounts.Lo <= amounts.Hi
}

// suspects returns the parts that can lose some amount.
func (s station) suspects() section {
	var found section
	for part := range s.parts {
		_, found[part] = s.canLose(part)
	}
	return found
}
