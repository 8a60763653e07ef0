package stock

import "forecourt/api"

// within reports whether all numbers are from least to most.
func within(least, most int64, numbers ...int64) bool {
	for _, n := range numbers {
		if n < least || n > most {
			return false
		}
	}
	return true
}

// validRange reports whether a range is valid, with ends from least to most.
func validRange(r api.Range, least, most int64) bool {
	return r.Lo <= r.Hi && within(least, most, r.Lo, r.Hi)
}

// flowsFit reports whether the flows of a net are as in a valid one.
func flowsFit(n api.StockNet) bool {
	for _, f := range n.Flows {
		if !within(0, int64(n.Tanks), int64(f.From), int64(f.To)) || f.From == f.To {
			return false
		}
		if !validRange(f.Litres, 0, api.MaxStockLitres) {
			return false
		}
	}
	return true
}

// checkFlow returns the error of CheckNet, or ErrRange if a flow of this name is not in the net.
func checkFlow(n api.StockNet, flow int) api.Errno {
	if e := CheckNet(n); e != api.OK {
		return e
	}
	if !within(0, int64(len(n.Flows)-1), int64(flow)) {
		return api.ErrRange
	}
	return api.OK
}

// cansFit reports whether what cans have, and what a meter showed of them, is within the limits.
func cansFit(cans []api.StockCan) bool {
	for _, c := range cans {
		if !within(0, api.MaxStockLitres, c.Shown) || !within(1, api.MaxStockLitres, c.True) {
			return false
		}
	}
	return true
}
