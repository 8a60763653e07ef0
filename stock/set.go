package stock

import (
	"iter"

	"forecourt/api"
)

// places is how many places a net can have: the outside, and its tanks.
const places = 1 + api.MaxStockTanks

// placeSet is which places a set has.
type placeSet [places]bool

// setOf returns the set of a list, and whether the list is one.
func setOf(tanks int, list []int) (placeSet, bool) {
	var s placeSet
	before := -1
	for _, place := range list {
		if place <= before || place > tanks {
			return placeSet{}, false
		}
		s[place], before = true, place
	}
	return s, true
}

// others returns the places that a set does not have. Those that the net does not have are among them; no flow tells the difference.
func (s placeSet) others() placeSet {
	var rest placeSet
	for place, has := range s {
		rest[place] = !has
	}
	return rest
}

// list returns the list of a set.
func (s placeSet) list(tanks int) []int {
	var room [places]int
	// The third index keeps out what the net does not have.
	grown := room[: 0 : 1+tanks]
	for place := range 1 + tanks {
		if s[place] {
			grown = append(grown, place)
		}
	}
	list := make([]int, len(grown))
	copy(list, grown)
	return list
}

// leaving yields the flows that go out of a set. Those that go into it go out of the others.
func leaving(flows []api.StockFlow, s placeSet) iter.Seq[api.StockFlow] {
	return func(yield func(api.StockFlow) bool) {
		for _, f := range flows {
			if s[f.From] && !s[f.To] && !yield(f) {
				return
			}
		}
	}
}

// lack returns by how much more flows out of a set than into it, at the least.
func lack(flows []api.StockFlow, s placeSet) int64 {
	litres := int64(0)
	for f := range leaving(flows, s) {
		litres += f.Litres.Lo
	}
	for f := range leaving(flows, s.others()) {
		litres -= f.Litres.Hi
	}
	return litres
}

// without returns flows of which one is none: a flow without litres that leads nowhere. The names of the others stay.
func without(flows []api.StockFlow, flow int) []api.StockFlow {
	rest := make([]api.StockFlow, len(flows))
	copy(rest, flows)
	rest[flow] = api.StockFlow{}
	return rest
}
