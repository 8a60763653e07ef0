package taint

import (
	"slices"

	"forecourt/api"
)

// isTrail reports whether moves bring taint from a start to a vessel, one after another, by a rule.
func isTrail(y api.TaintYard, at api.TaintStart, vessel int, trail []int, brought rule) bool {
	for _, name := range trail {
		m := y.Moves[name]
		if m.From != at.Vessel {
			return false
		}
		at = api.TaintStart{Vessel: m.To, Time: brought(m, at.Time)}
	}
	return at.Vessel == vessel && at.Time != api.TaintNever
}

// trail returns the moves by which taint came first to a vessel, one after another.
func (s *spread) trail(vessel int) []int {
	var room [api.MaxTaintVessels]int
	// The third index ends the room where a trail is longest: it comes to no vessel twice.
	back := room[: 0 : s.Vessels-1]
	for {
		move, found := s.first[s.at(vessel)]
		if !found {
			break
		}
		back = append(back, move)
		vessel = s.Moves[move].From
	}
	trail := make([]int, len(back))
	copy(trail, back)
	slices.Reverse(trail)
	return trail
}
