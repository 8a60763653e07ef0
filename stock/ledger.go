package stock

import "forecourt/api"

// row is litres of each place, or to each place.
type row [places]int64

// ledger is a net with litres for each of its flows. They are a truth if they
// are in their ranges, and no place has a surplus.
type ledger struct {
	api.StockNet
	litres [api.MaxStockFlows]int64
}

// ledgerOf returns the ledger of a valid net in which each flow has as few litres as it can.
func ledgerOf(n api.StockNet) ledger {
	b := ledger{StockNet: n}
	for name, f := range n.Flows {
		b.litres[name] = f.Litres.Lo
	}
	return b
}

// known yields the flows with their names, but those that are none.
func (b *ledger) known(yield func(int, api.StockFlow) bool) {
	for name, f := range b.Flows {
		if f != (api.StockFlow{}) && !yield(name, f) {
			return
		}
	}
}

// inRanges reports whether all flows are in their ranges.
func (b *ledger) inRanges() bool {
	for name, f := range b.known {
		if !within(f.Litres.Lo, f.Litres.Hi, b.litres[name]) {
			return false
		}
	}
	return true
}

// surplus returns by how much more flows into each place than out of it.
func (b *ledger) surplus() row {
	var litres row
	for name, f := range b.known {
		litres[f.From] -= b.litres[name]
		litres[f.To] += b.litres[name]
	}
	return litres
}

// room returns how much more can flow from each place to each other one. What
// flows the other way, and need not, counts as well.
func (b *ledger) room() [places]row {
	var litres [places]row
	for name, f := range b.known {
		litres[f.From][f.To] += f.Litres.Hi - b.litres[name]
		litres[f.To][f.From] += b.litres[name] - f.Litres.Lo
	}
	return litres
}

// shift lets so many litres more flow from a place to another one. There has to be room for them.
func (b *ledger) shift(from, to int, litres int64) {
	for name, f := range b.known {
		switch {
		case f.From == from && f.To == to:
			more := min(litres, f.Litres.Hi-b.litres[name])
			b.litres[name] += more
			litres -= more
		case f.From == to && f.To == from:
			less := min(litres, b.litres[name]-f.Litres.Lo)
			b.litres[name] -= less
			litres -= less
		}
	}
}

// truth returns the litres of all flows.
func (b *ledger) truth() []int64 {
	litres := make([]int64, len(b.Flows))
	copy(litres, b.litres[:])
	return litres
}
