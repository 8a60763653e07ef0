package taint

import (
	"iter"
	"slices"

	"forecourt/api"
)

// arrivals are when taint comes to each vessel.
type arrivals [api.MaxTaintVessels]int64

// spread is a yard with its arrivals for a start.
type spread struct {
	api.TaintYard
	come     arrivals
	first    map[api.TaintStart]int // by an arrival, the move by which it came first; the start came by none
	followed [api.MaxTaintVessels]bool
}

// spreadOf returns a valid yard of which no arrivals are known.
func spreadOf(y api.TaintYard) *spread {
	return &spread{TaintYard: y, first: map[api.TaintStart]int{}}
}

// arrival returns when taint comes to a vessel, at also to which one.
func (s *spread) arrival(vessel int) int64 { return s.come[vessel] }
func (s *spread) at(vessel int) api.TaintStart {
	return api.TaintStart{Vessel: vessel, Time: s.come[vessel]}
}

// reached reports whether taint comes to a vessel.
func (s *spread) reached(vessel int) bool { return s.come[vessel] != api.TaintNever }

// carried reports whether a move can carry taint.
func (s *spread) carried(move int) bool {
	m := s.Moves[move]
	return earliest(m, s.come[m.From]) != api.TaintNever
}

// out yields the moves out of a vessel, with their names.
func (s *spread) out(vessel int) iter.Seq2[int, api.TaintMove] {
	return func(yield func(int, api.TaintMove) bool) {
		for name, m := range s.Moves {
			if m.From == vessel && !yield(name, m) {
				return
			}
		}
	}
}

// waiting yields the vessels to which taint comes, and whose moves have not been followed.
func (s *spread) waiting(yield func(int) bool) {
	for vessel := range s.Vessels {
		if s.reached(vessel) && !s.followed[vessel] && !yield(vessel) {
			return
		}
	}
}

// arrive notes that taint comes by a move, unless it comes to the vessel as early without it.
func (s *spread) arrive(at api.TaintStart, move int) {
	if at.Time >= s.come[at.Vessel] {
		return
	}
	delete(s.first, s.at(at.Vessel))
	s.come[at.Vessel] = at.Time
	s.first[at] = move
}

// begin forgets the arrivals of the search before, and makes taint come to the vessel of a start.
func (s *spread) begin(from api.TaintStart) {
	clear(s.first)
	clear(s.followed[:])
	for vessel := range s.come {
		s.come[vessel] = api.TaintNever
	}
	s.come[from.Vessel] = from.Time
}

// search finds the earliest arrivals by a rule, if some moves are left out. No rule brings
// taint before it is in the From, so nothing becomes earlier for the vessel with the least number.
func (s *spread) search(from api.TaintStart, brought rule, left func(api.TaintMove) bool) {
	s.begin(from)
search:
	for {
		vessel, found := least(s.waiting, s.arrival)
		if !found {
			break search
		}
		s.followed[vessel] = true
		for name, m := range s.out(vessel) {
			if !left(m) {
				s.arrive(api.TaintStart{Vessel: m.To, Time: brought(m, s.come[vessel])}, name)
			}
		}
	}
}

// leads reports whether there is a trail to a vessel without the moves that are left out.
func (s *spread) leads(from api.TaintStart, vessel int, left func(api.TaintMove) bool) bool {
	s.search(from, earliest, left)
	return s.reached(vessel)
}

// spoils reports whether each of some moves can carry taint from a start.
func (s *spread) spoils(from api.TaintStart, moves []int) bool {
	s.search(from, earliest, noMove)
	return !slices.ContainsFunc(moves, func(move int) bool { return !s.carried(move) })
}

// right reports whether arrivals are right: neither the start nor a move makes one of them earlier.
func (s *spread) right(from api.TaintStart) bool {
	before := s.come
	s.come[from.Vessel] = min(s.come[from.Vessel], from.Time)
	for name, m := range s.Moves {
		s.arrive(api.TaintStart{Vessel: m.To, Time: earliest(m, s.come[m.From])}, name)
	}
	return s.come == before
}
